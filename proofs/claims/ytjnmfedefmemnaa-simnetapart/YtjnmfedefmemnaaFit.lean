import Derived.Test.YtjnmfedefmemnaaNew2
namespace Go.Proofs.Ytjnmfedefmemnaa
open Go.RowKit
set_option maxRecDepth 100000

theorem info3 : ∃ i : TypeInfo, Try.prog.info? 3 = some i ∧ i.zero = some (.int .i64 0) ∧ i.size = 1 ∧ i.bytes = 8 := by
  have h : (Try.prog.info? 3).map (fun i => (i.zero, i.size, i.bytes)) = some (some (.int .i64 0), 1, 8) := by kernel_rfl
  cases hq : Try.prog.info? 3 with
  | none => rw [hq] at h; cases h
  | some i => rw [hq] at h; simp at h; exact ⟨i, rfl, h.1, h.2.1, h.2.2⟩
theorem append_i {base m : Nat} {w : World} {v : Value} {xs : List Value} (h : w.ownsRow base 3 1 v m xs) (hm : m ≤ 64) (hbase : base ≤ w.heap.size) (x : Int) (ty : TypeId) :
    ∃ v' w', (Builtin.append_ #[27, 27] ty #[v, .slice (some ⟨w.heap.size, 0, none⟩) 1 1]).run Try.prog (w.alloc (.cells #[.int .i64 x] 3)) = .ok v' w' ∧ w'.ownsRow base 3 1 v' (m + 1) (xs ++ [.int .i64 x]) ∧ Below base w w' := by
  obtain ⟨i, i1, i2, i3, i4⟩ := info3
  have hal := below_grow (Below.refl w.heap.size w) (.cells #[.int .i64 x] 3)
  have h' : (w.alloc (.cells #[.int .i64 x] 3)).ownsRow base 3 1 v m xs := h.alloc _
  obtain ⟨v', w', hr, ho, hg, _⟩ := run_append_own (P := Try.prog) (w.alloc (.cells #[.int .i64 x] 3)) base 27 ty 3 i (.int .i64 0) 1 8 Try.underlying27 i1 i2 i3 i4 rfl (by decide) v m xs h' ⟨w.heap.size, 0, none⟩ 1 1 [.int .i64 x] rfl (fun j u hu => by
    match j, hu with
    | 0, hu => simp at hu; subst hu; rw [Addr.add_mid]; exact (Row.new w [Value.int .i64 x] 3).cell 0 _ rfl) (by simp [Value.oneCell']) (by unfold maxLen; omega) (by omega) (Nat.le_trans hbase hal.size)
  refine ⟨v', w', hr, ho, (hal.mono hbase).trans ⟨hg.os, hg.tape, hg.output, hg.size, fun k hk => hg.block k (by have := hal.size; omega) (fun e => ?_)⟩⟩
  obtain ⟨_, ⟨rfl, _⟩ | ⟨g, cap, cur, rfl, hbb, _⟩⟩ := h
  · cases e
  · simp only [Value.ownBlock, Option.some.injEq] at e
    omega
/-- What fit makes of a list. -/
def cap9 (c : Int) : Int := 1 + (IntKind.u64.wrap c) % 9
def fitL (cs : List Int) : List Int := if cs = [] then [2] else (cs.take 8).map cap9
theorem cap9_bd (c : Int) : 1 ≤ cap9 c ∧ cap9 c ≤ 9 := by unfold cap9; omega
theorem cap9_of (c : Int) : wrap64 (1 + wrap64 ((IntKind.u64.wrap c).tmod 9)) = cap9 c := by
  have h0 : 0 ≤ IntKind.u64.wrap c := by rw [IntKind.wrap_u64]; omega
  rw [Int.tmod_eq_emod_of_nonneg h0]
  unfold cap9 wrap64
  omega
theorem owns_ints {base m : Nat} {w : World} {v : Value} {l : List Int} (h : w.ownsRow base 3 1 v m (l.map (Value.int .i64))) : ∃ a cap, v = .slice a m cap ∧ CellsAt w a (l.map (Value.int .i64)) := by
  obtain ⟨h1, ⟨rfl, rfl⟩ | ⟨g, cap, cur, rfl, hb, hh, hc, _, hs, ht⟩⟩ := h
  · exact ⟨none, 0, rfl, fun k hk => by rw [h1] at hk; simp at hk⟩
  · refine ⟨_, _, rfl, fun k hk => ⟨g, 0, rfl, ?_⟩⟩
    rw [Nat.zero_add, cell_of_row w g k cur 3 (0, 0) hh]
    have hk' : k < m := by rw [h1] at hk; omega
    have e : (l.map (Value.int .i64))[k]? = cur.toList[k]? := by rw [← ht, Nat.mul_one, List.getElem?_take_of_lt hk']
    rw [List.getElem?_eq_getElem hk] at e
    simpa using e.symm
set_option maxHeartbeats 2000000 in
theorem fit_any {w : World} {a : Option Addr} {n cap : Nat} {cs : List Int} (hC : CellsAt w a (cs.map (Value.int .i64))) (hn : cs.length = n) :
    Calls Try.prog 21 #[.slice a n cap] w fun e w' => ∃ v, e = .returned v ∧ w'.ownsRow w.heap.size 3 1 v (fitL cs).length ((fitL cs).map (Value.int .i64)) ∧ Below w.heap.size w w' := by
  have HC := hid hC
  have HN := hid hn
  clear hC hn
  go_enter Try.func21, Try.ntmps21
  go_wp2
  go_loopw [3, 4] (fun l i wr => ∃ k : Nat, k ≤ n ∧ k ≤ 8 ∧ i = .int .i64 k ∧ wr.ownsRow w.heap.size 3 1 l k (((cs.take k).map cap9).map (Value.int .i64)) ∧ Below w.heap.size w wr) (fun _ i _ => 8 - (intOf i).toNat)
  case atStart => exact ⟨0, Nat.zero_le _, by omega, rfl, ⟨rfl, .inl ⟨rfl, rfl⟩⟩, Below.refl _ _⟩
  case round =>
    obtain ⟨k, hk, hk8, rfl, how, hb⟩ := hrel
    have HO := hid how
    have HB := hid hb
    clear how hb
    by_cases hlt : k < n ∧ k < 8
    · have hkc : k < cs.length := by rw [HN.out]; exact hlt.1
      obtain ⟨ga, oa, rfl, ca⟩ := HC.out k (by simpa using hkc)
      rw [List.getElem_map] at ca
      have HTK : Hid (((cs.take (k + 1)).map cap9).map (Value.int .i64) = ((cs.take k).map cap9).map (Value.int .i64) ++ [.int .i64 (cap9 cs[k])]) := by show _ = _; rw [take_snoc cs k hkc, List.map_append, List.map_append]; rfl
      have l1 : (k : Int) < (n : Int) := by omega
      have l2 : (k : Int) < 8 := by omega
      generalize cs[k] = c at *
      have ca2 := cell_kept HB.out ca
      have ec := cap9_of c
      obtain ⟨v', w', hr, ho, hbb⟩ := append_i HO.out (by omega) HB.out.size (cap9 c) 27
      have HR := hid hr
      have HO2 := hid ho
      have HB2 := hid (HB.out.trans hbb)
      have HK := hid hlt
      clear hr ho hbb ca hk hk8 hlt hkc
      go_wp2_with (first | (at_builtin; refine wpList_append_by rfl _ _ _ rfl rfl rfl HR.out ?_))
      go_roundw
      case rel => exact ⟨k + 1, HK.out.1, HK.out.2, by go_num, by rw [HTK.out]; exact HO2.out, HB2.out⟩
      case measure => simp [intOf]; have := HK.out.2; omega
    · by_cases h0 : n = 0
      · subst h0
        have ek : k = 0 := by omega
        subst ek
        have HE : Hid (cs = []) := List.length_eq_zero_iff.1 HN.out
        obtain ⟨al, capl, rfl, _⟩ := owns_ints HO.out
        obtain ⟨v', w', hr, ho, hbb⟩ := append_i HO.out (by omega) HB.out.size 2 27
        have HR := hid hr
        have HO2 := hid ho
        have HB2 := hid (HB.out.trans hbb)
        clear hr ho hbb hk hk8 hlt
        go_wp2_with (first | (at_builtin; refine wpList_append_by rfl _ _ _ rfl rfl rfl HR.out ?_))
        go_ret
        refine ⟨_, rfl, ?_, HB2.out⟩
        have h := HO2.out
        rw [HE.out] at h ⊢
        exact h
      · have HE : Hid (fitL cs = (cs.take k).map cap9) := by
          show _ = _
          unfold fitL
          rw [if_neg (fun e => h0 (by rw [← HN.out, e]; rfl))]
          by_cases h8 : k = 8
          · rw [h8]
          · have ek : k = n := by omega
            rw [List.take_of_length_le (by rw [HN.out]; omega), List.take_of_length_le (by rw [HN.out]; omega)]
        have HL : Hid ((fitL cs).length = k) := by show _ = _; rw [HE.out, List.length_map, List.length_take, HN.out]; omega
        have kp : (k : Int) ≠ 0 := by omega
        have kd : decide ((k : Int) = 0) = false := decide_eq_false kp
        have kn : decide (k = 0) = false := decide_eq_false (by omega)
        obtain ⟨al, capl, rfl, _⟩ := owns_ints HO.out
        rcases (show ¬ k < n ∨ (k < n ∧ ¬ k < 8) by omega) with h1 | ⟨h1, h2⟩
        · have e1 : decide ((k : Int) < (n : Int)) = false := decide_eq_false (by omega)
          have e2 : decide (k < n) = false := decide_eq_false h1
          clear hk hk8 hlt h0
          go_wp2
          go_ret
          exact ⟨_, rfl, by rw [HL.out, HE.out]; exact HO.out, HB.out⟩
        · have e1 : decide ((k : Int) < (n : Int)) = true := decide_eq_true (by omega)
          have e0 : (k : Int) < (n : Int) := by omega
          have e2 : decide ((k : Int) < 8) = false := decide_eq_false (by omega)
          have e3 : decide (k < 8) = false := decide_eq_false h2
          clear hk hk8 hlt h0
          go_wp2
          go_ret
          exact ⟨_, rfl, by rw [HL.out, HE.out]; exact HO.out, HB.out⟩
end Go.Proofs.Ytjnmfedefmemnaa
