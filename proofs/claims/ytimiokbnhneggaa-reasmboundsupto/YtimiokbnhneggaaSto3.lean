import Derived.Test.YtimiokbnhneggaaSto2
namespace Go.Proofs.Ytimiokbnhneggaa
open Go.RowKit Go.Maps
set_option maxRecDepth 100000

theorem make_u (w : World) (n : Nat) (hn : n ≤ 140737488355328) : (Instr.makeSlice 22 (.int .u64 (n : Int)) (.int .u64 (n : Int))).run Try.prog w = .ok (.slice (some ⟨w.heap.size, 0, none⟩) n n) (w.alloc (.cells (bcells (z n)).toArray 5)) := by
  obtain ⟨i, h1, h2, h3, h4⟩ := info5
  have hr := run_make (P := Try.prog) w 22 5 i (.int .u8 0) Try.underlying22 h1 h2 .u64 .u64 (n : Int) (n : Int) (by omega) (by omega) (by rw [h4]; omega) (by omega)
  simp only [Int.toNat_natCast, h3, Nat.mul_one, Value.cells, made0] at hr
  exact hr
/-- The bytes of a stretch, as they lie in one block. -/
theorem at_cells {w : World} {b n : Nat} {D : DM} (h : Sto w b n D) {x : Int} {bs : List (BitVec 8)} (hA : ∀ i (hi : i < bs.length), At w D (x + i) bs[i]) {j : Nat} (hj : j < bs.length) :
    ∃ g, blk D ((x + j) / 1024) = some g ∧ ∃ l : List (BitVec 8), Row w g (bcells l) 5 ∧ ∀ (i : Nat) v, (i : Int) < 1024 - (x + j) % 1024 → (bcells (bs.drop j))[i]? = some v → w.cell? ((⟨g, ((x + j) % 1024).toNat, none⟩ : Addr).add i) = some v := by
  obtain ⟨g, hg, _⟩ := hA j hj
  obtain ⟨l, _, hr⟩ := h.row _ _ hg
  refine ⟨g, hg, l, hr, fun i v hi hv => ?_⟩
  have hlt : i < (bs.drop j).length := by have := (List.getElem?_eq_some_iff.1 hv).1; rwa [bcells_len] at this
  rw [bcells_get hlt] at hv
  have hlt' : j + i < bs.length := by simp at hlt; omega
  obtain ⟨g', hg', hc⟩ := hA (j + i) hlt'
  have e1 : (x + ((j + i : Nat) : Int)) / 1024 = (x + j) / 1024 := by omega
  have e2 : ((x + ((j + i : Nat) : Int)) % 1024).toNat = ((x + j) % 1024).toNat + i := by omega
  rw [e1, hg] at hg'
  cases hg'
  rw [e2] at hc
  rw [Addr.add_mid, hc, ← hv, List.getElem_drop]
theorem fill_step {bs : List (BitVec 8)} {N j k : Nat} (hN : bs.length = N) (hk : j + k ≤ N) : (bs.take j ++ z (N - j)).take j ++ (bs.drop j).take k ++ (bs.take j ++ z (N - j)).drop (j + k) = bs.take (j + k) ++ z (N - (j + k)) := by
  have h1 : (bs.take j ++ z (N - j)).take j = bs.take j := List.take_left' (by simp; omega)
  have h2 : (bs.take j ++ z (N - j)).drop (j + k) = z (N - (j + k)) := by
    rw [← List.drop_drop, List.drop_left' (by simp; omega)]
    unfold z
    rw [List.drop_replicate]
    congr 1
    omega
  rw [h1, h2, List.take_add]
set_option maxHeartbeats 4000000 in
theorem get_any {w : World} {b n : Nat} {D : DM} (h : Sto w b n D) {x : Int} (h0 : 0 ≤ x) {bs : List (BitVec 8)} (hA : ∀ i (hi : i < bs.length), At w D (x + i) bs[i]) (N : Nat) (hNb : bs.length = N) (hx : x + N ≤ 18446744073709549568) (hN : N ≤ 140737488355328) :
    Calls Try.prog 30 #[.map (some b), .int .u64 x, .int .u64 (x + N)] w fun e w' => e = .returned (.slice (some ⟨w.heap.size, 0, none⟩) N N) ∧ Row w' w.heap.size (bcells bs) 5 ∧ Below w.heap.size w w' := by
  have hmk := make_u w N hN
  have hwN : x + (N : Int) - x = (N : Int) := by omega
  have H := hid h
  have HA := hid hA
  have HNB := hid hNb
  clear h hA hNb
  go_enter Try.func30, Try.ntmps30
  go_wp2_with fail
  have HR0 : Hid (Row (w.alloc (.cells (bcells (z N)).toArray 5)) w.heap.size (bcells (z N)) 5) := Row.new _ _ _
  have HB0 : Hid (Below w.heap.size w (w.alloc (.cells (bcells (z N)).toArray 5))) := (Below.refl _ _).alloc (Nat.le_refl _) _
  obtain ⟨W0, hW0⟩ : ∃ W0, w.alloc (.cells (bcells (z N)).toArray 5) = W0 := ⟨_, rfl⟩
  rw [hW0] at HR0 HB0 ⊢
  clear hW0 hmk
  go_loopw [1, 8] (fun s1 s8 wr => ∃ (j : Nat) (aj : Option Addr), j ≤ N ∧ s1 = .int .u64 (x + j) ∧ s8 = .slice aj (N - j) (N - j) ∧ (j < N → aj = some ⟨w.heap.size, j, none⟩) ∧ Row wr w.heap.size (bcells (bs.take j ++ z (N - j))) 5 ∧ Below w.heap.size w wr) (fun s1 _ _ => (x + N - intOf s1).toNat)
  case atStart => exact ⟨0, _, Nat.zero_le _, by simp, rfl, fun _ => rfl, by simpa using HR0.out, HB0.out⟩
  case round =>
    obtain ⟨j, aj, hj, rfl, rfl, haj, hr, hb⟩ := hrel
    have HR := hid hr
    have HB := hid hb
    clear hr hb
    by_cases hlt : j < N
    · obtain rfl := haj hlt
      clear haj HR0 HB0
      obtain ⟨k, hk⟩ : ∃ k : Nat, (k : Int) = min ((x + N) - (x + j)) (1024 - (x + j) % 1024) := ⟨(min ((x + N) - (x + j)) (1024 - (x + j) % 1024)).toNat, by omega⟩
      have hk1 : 1 ≤ k := by omega
      have hk2 : j + k ≤ N := by omega
      have hsr := H.out.kept_below HB.out
      obtain ⟨g, hg, l, hrow, hcs⟩ := at_cells hsr (bs := bs) (fun i hi => (HA.out i hi).kept_below HB.out) (j := j) (by have := HNB.out; omega)
      have hpc := piece_any hsr.own (x := x + j) (y := x + N) (by omega) (by omega) (by omega) hg k hk
      have hcl : (bcells ((bs.drop j).take k)).length = k := by have := HNB.out; rw [bcells_len]; simp; omega
      have hrun := run_copy_row (P := Try.prog) wr 22 22 3 5 w.heap.size j (N - j) (N - j) ⟨g, ((x + j) % 1024).toNat, none⟩ k k (bcells (bs.take j ++ z (N - j))).toArray 5 (bcells ((bs.drop j).take k)) Try.underlying22 (by kernel_rfl) HR.out.at_ (by rw [hcl]; show k = min k (N - j); omega)
        (fun i v hv => by
          have hi : i < k := by have := (List.getElem?_eq_some_iff.1 hv).1; rw [hcl] at this; exact this
          refine hcs i v (by omega) ?_
          rw [← hv]
          simp only [bcells, List.getElem?_map]
          rw [List.getElem?_take, if_pos hi]) (by rw [hcl]; simp [bcells_len, z_len]; have := HNB.out; omega) (bcells_one _)
      rw [hcl] at hrun
      have e1 : (bcells (bs.take j ++ z (N - j))).toArray.toList.take j ++ bcells ((bs.drop j).take k) ++ (bcells (bs.take j ++ z (N - j))).toArray.toList.drop (j + k) = bcells (bs.take (j + k) ++ z (N - (j + k))) := by
        rw [← fill_step (N := N) (j := j) (k := k) HNB.out hk2]
        simp only [bcells, ← List.map_take, ← List.map_drop, ← List.map_append]
      rw [e1] at hrun
      obtain ⟨w2, hw2⟩ : ∃ w2, w2 = wr.setRow w.heap.size (bcells (bs.take (j + k) ++ z (N - (j + k)))).toArray := ⟨_, rfl⟩
      rw [← hw2] at hrun
      have HR2 : Hid (Row w2 w.heap.size (bcells (bs.take (j + k) ++ z (N - (j + k)))) 5) := by show Row _ _ _ _; rw [hw2]; exact HR.out.row _
      have HB2 : Hid (Below w.heap.size w w2) := by show Below _ _ _; rw [hw2]; exact below_setRow HB.out (Nat.le_refl _) _
      have HE := hid hk2
      have HY : Hid (x + (j : Int) + k = x + ((j + k : Nat) : Int)) := by show _ = _; omega
      have hy0 : 0 ≤ x + (j : Int) := by omega
      have hy1 : x + (j : Int) + k ≤ 18446744073709549568 := by omega
      have HM := hid (show (x + (N : Int) - (x + (j : Int) + k)).toNat < (x + (N : Int) - (x + (j : Int))).toNat by omega)
      have HNE := hid (show N - (j + k) = N - j - k ∧ (j + k < N → ¬ N - j = k) by omega)
      have hNj : (0 : Int) < ((N - j : Nat) : Int) := by omega
      have hkNj : k ≤ N - j := by omega
      clear hw2 e1 hcs hrow hsr hg hk hk2 HR HB HA H HNB hwN hcl
      generalize hyy : x + (j : Int) = y at *
      clear hyy
      generalize hNN : x + (N : Int) = yN at *
      clear hNN
      generalize hMM : N - j = M at *
      clear hMM
      go_wp2_with (go_at_call 46; refine hpc.mono ?_; rintro e w4 ⟨rfl, rfl⟩)
      refine ⟨⟨j + k, _, HE.out, congrArg _ HY.out, by rw [HNE.out.1], fun hl => ?_, HR2.out, HB2.out⟩, HM.out⟩
      rw [if_neg (HNE.out.2 hl)]
    · obtain rfl : j = N := by omega
      have hz : j - j = 0 := by omega
      go_wp2
      go_ret
      refine ⟨rfl, ?_, HB.out⟩
      have := HR.out
      rw [Nat.sub_self, List.take_of_length_le (by rw [HNB.out]; exact Nat.le_refl _)] at this
      simpa [z] using this
/-- What stands when the keys from q0 up to q are gone. -/
structure LessAt (w wr : World) (b n : Nat) (D D' : DM) (q0 q : Int) : Prop where
  sto : Sto wr b n D'
  fr : Fr (fun k => k = b) w wr
  bl : ∀ k, blk D' k = if q0 ≤ k ∧ k < q then none else blk D k
theorem LessAt.sub {w wr : World} {b n : Nat} {D D' : DM} {q0 q : Int} (h : LessAt w wr b n D D' q0 q) : ∀ k, SB b D' k → SB b D k := fun k hk => by
  rcases hk with rfl | ⟨x, hx⟩
  · exact .inl rfl
  · rw [h.bl] at hx
    split at hx
    · cases hx
    · exact .inr ⟨x, hx⟩
theorem Sto.not_b {w : World} {b n : Nat} {D : DM} (h : Sto w b n D) {k : Int} {g : Nat} (hk : blk D k = some g) : g ≠ b := fun e => by
  obtain ⟨l, _, hr⟩ := h.row k g hk
  obtain ⟨es, clock, hb, _⟩ := h.own
  subst e
  rw [hr.at_] at hb
  cases hb
theorem LessAt.at_ {w wr : World} {b n : Nat} {D D' : DM} {q0 q : Int} (h : LessAt w wr b n D D' q0 q) (hs : Sto w b n D) {y : Int} {c : BitVec 8} (hy : At w D y c) (hq : ¬ (q0 ≤ y / 1024 ∧ y / 1024 < q)) : At wr D' y c := by
  obtain ⟨g, h1, h2⟩ := hy
  exact ⟨g, by rw [h.bl, if_neg hq]; exact h1, h.fr.cell h2 (hs.not_b h1)⟩
set_option maxHeartbeats 4000000 in
theorem forget_any {w : World} {b n : Nat} {D : DM} (h : Sto w b n D) {x y : Int} (h0 : 0 ≤ x) (hxy : x ≤ y) (hy : y ≤ 18446744073709549568) :
    Calls Try.prog 32 #[.map (some b), .int .u64 x, .int .u64 y] w fun e w' => e = .returned (.tuple #[]) ∧ ∃ D', LessAt w w' b n D D' (x / 1024) (y / 1024) := by
  have HST : Hid (LessAt w w b n D D (x / 1024) (x / 1024)) := ⟨h, Fr.refl _ _, fun k => by rw [if_neg (by omega)]⟩
  have hq0 : 0 ≤ x / 1024 := by omega
  have hq1 : x / 1024 ≤ y / 1024 := by omega
  have hq2 : y / 1024 ≤ 18446744073709549568 := by omega
  clear h
  go_enter Try.func32, Try.ntmps32
  go_wp2_with fail
  obtain ⟨p, hp⟩ : ∃ p, p = x / 1024 := ⟨_, rfl⟩
  have HPP := hid hp
  rw [← hp] at hq0 hq1 HST ⊢
  clear hxy h0 hp
  go_loopw [6] (fun s6 wr => ∃ (q : Int) (D' : DM), p ≤ q ∧ q ≤ y / 1024 ∧ s6 = .int .u64 q ∧ LessAt w wr b n D D' p q) (fun s6 _ => (y / 1024 - intOf s6).toNat)
  case atStart => exact ⟨p, D, Int.le_refl _, hq1, rfl, HST.out⟩
  case round =>
    obtain ⟨q, D', hpq, hqy, rfl, hL⟩ := hrel
    have HL := hid hL
    clear hL HST
    by_cases hlt : q < y / 1024
    · have HKEY := hid (key28 (n := q) (by omega) (by omega))
      have HOWN := hid HL.out.sto.own
      go_wp2_with (at_delete; refine wpList_delete_own _ rfl _ _ 55 28 rfl 22 law28 Try.underlying55 readB b _ _ rfl HOWN.out _ _ rfl HKEY.out ?_; intro w2 hown2 hturn2; have HO2 := hid hown2; have HT2 := hid hturn2; clear hown2 hturn2)
      refine ⟨⟨q + 1, D'.del (kw q), by omega, by omega, rfl, ?_⟩, by simp [intOf]; omega⟩
      have hbl : ∀ k, blk (D'.del (kw q)) k = if p ≤ k ∧ k < q + 1 then none else blk D k := fun k => by
        by_cases e : k = q
        · subst e; rw [blk_del_same, if_pos (by omega)]
        · rw [blk_del_other e, HL.out.bl]
          by_cases hh : p ≤ k ∧ k < q
          · rw [if_pos hh, if_pos (by omega)]
          · rw [if_neg hh, if_neg (by omega)]
      have hsub : ∀ k g, blk (D'.del (kw q)) k = some g → blk D' k = some g := fun k g hk => by
        by_cases e : k = q
        · subst e; rw [blk_del_same] at hk; cases hk
        · rwa [blk_del_other e] at hk
      refine ⟨⟨HO2.out, fun k g hk => ?_, fun k k' g hk hk' => HL.out.sto.inj _ _ _ (hsub _ _ hk) (hsub _ _ hk')⟩, ?_, hbl⟩
      · obtain ⟨l, h1, h2⟩ := HL.out.sto.row _ _ (hsub _ _ hk)
        exact ⟨l, h1, h2.of_block (HT2.out.grown.block g h2.lt (by simp; exact HL.out.sto.not_b (hsub _ _ hk)))⟩
      · exact HL.out.fr.trans (T := fun k => k = b) (Fr.of_grown HT2.out.grown (fun k e => .inl (by simpa using e.symm))) (fun _ e => .inl e)
    · obtain rfl : q = y / 1024 := by omega
      go_wp2
      refine bodyPost_end (results_none Try.results32 _ _ _) rfl ?_
      rw [← HPP.out]
      exact ⟨rfl, _, HL.out⟩
end Go.Proofs.Ytimiokbnhneggaa
