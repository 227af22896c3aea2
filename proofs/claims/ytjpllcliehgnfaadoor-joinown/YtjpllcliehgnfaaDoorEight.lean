import Derived.Test.YtjpllcliehgnfaaDoorNobodyLaw
namespace Go.Proofs.YtjpllcliehgnfaaDoor
open Go.RowKit
set_option maxRecDepth 100000

/-- The j-th of a number's eight bytes, the highest first. -/
def eb (n j : Nat) : BitVec 8 := BitVec.ofNat 8 (n / 2 ^ (56 - 8 * j))
def eightL (n : Nat) : List (BitVec 8) := (List.range 8).map (eb n)
def e8 (n k : Nat) : List (BitVec 8) := (List.range k).map (eb n) ++ List.replicate (8 - k) 0#8
theorem e8_len (n k : Nat) (h : k ≤ 8) : (e8 n k).length = 8 := by simp [e8]; omega
theorem e8_set (n k : Nat) (h : k < 8) : (e8 n k).set k (eb n k) = e8 n (k + 1) := by
  unfold e8
  rw [List.set_append_right _ _ (by simp), List.length_map, List.length_range, Nat.sub_self]
  obtain ⟨m, hm⟩ : ∃ m, 8 - k = m + 1 := ⟨7 - k, by omega⟩
  rw [hm, show 8 - (k + 1) = m by omega, List.replicate_succ, List.set_cons_zero, List.range_succ, List.map_append]
  simp

set_option maxHeartbeats 600000 in
theorem eight_any (w : World) (N : Nat) (hN : N < 18446744073709551616) : Calls Tryd.prog 55 #[.int .u64 (N : Int)] w fun e w' => e = .returned (.agg (bcells (eightL N)).toArray) ∧ Below w.heap.size w w' := by
  have HN : Hid _ := hN
  clear hN
  go_enter Tryd.func55, Tryd.ntmps55
  go_wp2
  go_loopw [5] (fun i wr => ∃ k : Nat, k ≤ 8 ∧ i = .int .i64 k ∧ Row wr (w.heap.size + 1) (bcells (e8 N k)) 87 ∧ Row wr w.heap.size (bcells (e8 0 0)) 87 ∧ Below w.heap.size w wr) (fun i _ => 8 - (intOf i).toNat)
  case atStart =>
    exact ⟨0, by omega, rfl, Row.new' _ _ _ _ _ (by simp) rfl, (Row.new' _ _ _ _ _ rfl rfl).alloc _, (((Below.refl _ _).alloc (Nat.le_refl _) _).alloc (by simp) _)⟩
  case round =>
    obtain ⟨k, hk, rfl, R1, R0, hb⟩ := hrel
    by_cases hlt : k < 8
    · have hlt' : (k : Int) < 8 := by omega
      obtain ⟨sh, hsh⟩ : ∃ sh, sh = 56 - 8 * k := ⟨_, rfl⟩
      have h1 : (56 : Int) - 8 * (k : Int) = (sh : Int) := by omega
      have h2 : (sh : Int) ≤ 64 := by omega
      have hv : IntKind.u8.wrap ((N : Int) / 2 ^ sh) = ub (eb N k) := by
        rw [IntKind.wrap_u8', ub, eb, BitVec.toNat_ofNat, hsh]; simp
      have hv' : ((N : Int) / 2 ^ sh) % 256 = ub (eb N k) := by rw [← IntKind.wrap_u8']; exact hv
      have f1 := R1.frozen k
      have f2 : ∃ v, wr.cell? ⟨w.heap.size + 1, k, none⟩ = some v := ⟨_, R1.cell k _ (bcells_get (by rw [e8_len _ _ hk]; exact hlt))⟩
      obtain ⟨v, f2⟩ := f2
      have HR1 : Hid _ := R1
      have HR0 : Hid _ := R0
      have HB : Hid _ := hb
      have HS : Hid _ := e8_set N k hlt
      clear R1 R0 hb hsh
      generalize eb N k = ek at *
      go_wp2
      go_roundw
      case rel =>
        refine ⟨k + 1, hlt, by go_num, ?_, HR0.out.setOther _ (show w.heap.size ≠ w.heap.size + 1 by omega) _, HB.out.setCell (show w.heap.size ≤ w.heap.size + 1 by omega) _⟩
        have hr := HR1.out.set k (.int .u8 (ub ek))
        rw [bcells_set, HS.out] at hr
        exact hr
      case measure => simp [intOf]; omega
    · have ek : k = 8 := by omega
      subst ek
      have e1 : e8 N 8 = eightL N := by simp [e8, eightL]
      rw [e1] at R1
      have i63 : (Tryd.prog.info? 87).map (·.size) = some 8 := by kernel_rfl
      have I63 : Hid _ := i63
      have HL8 : Hid ((eightL N).length = 8) := by show (eightL N).length = 8; simp [eightL]
      have HR1 : Hid _ := R1
      have HR0 : Hid _ := R0
      have HB : Hid _ := hb
      clear R1 R0 hb i63 e1
      generalize hE : eightL N = E at *
      have HE : Hid _ := hE
      clear hE
      go_wp2_with (first
        | (show wpList _ _ _ (Oper.mk (some 17) (.load 87 (.tmp 3)) _ _ _ _ :: _) _ _; refine HR1.out.wpLoad 87 (.tmp 3) rfl rfl rfl _ Tryd.underlying87 rfl (by rw [bcells_len, HL8.out]; exact I63.out) ?_)
        | (show wpList _ _ _ (Oper.mk none (.store 87 (.tmp 2) (.tmp 17)) _ _ _ _ :: _) _ _; refine HR0.out.wpStore' 87 (.tmp 2) (.tmp 17) (bcells E) rfl rfl rfl rfl (by rw [bcells_len, bcells_len, HL8.out]; rfl) (bcells_one _) (by rw [bcells_len, HL8.out]; exact I63.out) ?_; intro wz HZ))
      have R : Row wz w.heap.size (bcells E) 87 := by rw [HZ.out]; exact HR0.out.row _
      have hB : Below w.heap.size w wz := by rw [HZ.out]; exact Go.below_setRow HB.out (Nat.le_refl _) _
      exact bodyPost_ret (v := .agg (bcells E).toArray) (R.result Tryd.results55 _ rfl _ Tryd.underlying87 rfl (by rw [bcells_len, HL8.out]; exact I63.out)) rfl ⟨by rw [HE.out], hB⟩

/-- What stands between a text of n bytes and its length. -/
def padL (n : Nat) : List (BitVec 8) := 128#8 :: List.replicate ((119 - n % 64) % 64) 0#8
theorem made0 (n : Nat) : madeCells #[.int .u8 0] n = (bcells (List.replicate n 0#8)).toArray := by
  apply Array.ext_getElem?
  intro j
  by_cases h : j < n
  · simp [madeCells, bcells, h, Nat.mod_one, bv]; rfl
  · simp [madeCells, bcells, h]
theorem info5 : ∃ i : TypeInfo, Tryd.prog.info? 5 = some i ∧ i.zero = some (.int .u8 0) ∧ i.size = 1 ∧ i.bytes = 1 := by
  have h : (Tryd.prog.info? 5).map (fun i => (i.zero, i.size, i.bytes)) = some (some (.int .u8 0), 1, 1) := by kernel_rfl
  cases hq : Tryd.prog.info? 5 with
  | none => rw [hq] at h; cases h
  | some i =>
    rw [hq] at h
    simp only [Option.map_some, Option.some.injEq, Prod.mk.injEq] at h
    exact ⟨i, rfl, h.1, h.2.1, h.2.2⟩
/-- make([]byte, n). -/
theorem wpMakeB {ops : Array Oper} {rest : List Oper} {o : Oper} {a : Act} {w : World} {Q : Exit → Act → World → Prop} (x y : Operand) (k : IntKind) (n : Nat) (hgd : o.guard = none) (ho : o.op = .makeSlice 25 x y) (hx : a.eval x = .int k (n : Int)) (hy : a.eval y = .int k (n : Int)) (hn : n ≤ 281474976710656)
    (h : ∀ w', Hid (w' = w.alloc (.cells (bcells (List.replicate n 0#8)).toArray 5)) → wpList Tryd.prog ops Q rest (a.put o.dst (.slice (some ⟨w.heap.size, 0, none⟩) n n)) w') : wpList Tryd.prog ops Q (o :: rest) a w := by
  obtain ⟨i, h1, h2, h3, h4⟩ := info5
  have hr := run_make (P := Tryd.prog) w 25 5 i (.int .u8 0) Tryd.underlying25 h1 h2 k k (n : Int) (n : Int) (by omega) (by omega) (by rw [h4]; omega) (by omega)
  simp only [Int.toNat_natCast, h3, Nat.mul_one, Value.cells, made0] at hr
  refine wpList_plain hgd fun K hK => ?_
  unfold Oper.wp execOp
  simp only [ho, hx, hy, Sem.run_bind, hr, Result.andThen_ok, Sem.run_pure]
  exact hK _ _ (h _ rfl)

set_option maxHeartbeats 600000 in
theorem padding_any (w : World) (N : Nat) : Calls Tryd.prog 67 #[.int .u64 (N : Int)] w fun e w' => ∃ g cap, e = .returned (.slice (some ⟨g, 0, none⟩) (padL N).length cap) ∧ w.heap.size ≤ g ∧ (padL N).length ≤ cap ∧ cap ≤ 281474976710656 ∧ BytesAt w' (some ⟨g, 0, none⟩) (padL N) ∧ Below w.heap.size w w' := by
  obtain ⟨z, hz, hz2⟩ : ∃ z, z = (119 - N % 64) % 64 ∧ z < 64 := ⟨_, rfl, Nat.mod_lt _ (by decide)⟩
  have hzi : ((119 : Int) - (N : Int) % 64) % 64 = (z : Int) := by omega
  have hz3 : (z : Int) < 64 := by omega
  have HPL : Hid (padL N = 128#8 :: List.replicate z 0#8) := by show padL N = _; unfold padL; rw [← hz]
  obtain ⟨m, hm⟩ : ∃ m, m = 1 + z := ⟨_, rfl⟩
  have hc1 : (1 : Int) + (z : Int) = (m : Int) := by omega
  have HM : Hid _ := hm
  have hm1 : (0 : Int) < (m : Int) := by omega
  have HM2 : Hid (m ≤ 64) := by show m ≤ 64; omega
  clear hz hm
  go_enter Tryd.func67, Tryd.ntmps67
  go_upto_region 2 with (fail)
  rw [hzi]
  clear hzi hz2
  go_wp2_with (first
    | (at_make; refine wpMakeB (.tmp 10) (.tmp 10) .u64 m rfl rfl rfl rfl (by have := HM2.out; omega) ?_; intro w1 HW; have c0 : w1.cell? ⟨w.heap.size, 0, none⟩ = some (.int .u8 0) := (by rw [HW.out]; exact (Row.new w _ 5).cell 0 _ (by rw [HM.out, Nat.add_comm]; rfl)); have f0 : w1.frozen? ⟨w.heap.size, 0, none⟩ = false := (by rw [HW.out]; exact (Row.new w _ 5).frozen 0)))
  go_ret
  have hPL := HPL.out
  have hl : (padL N).length = m := by rw [hPL, HM.out]; simp; omega
  refine ⟨w.heap.size, m, by rw [hl]; rfl, Nat.le_refl _, by omega, by have := HM2.out; omega, ?_, ?_⟩
  · have R : Row (w1.setCell ⟨w.heap.size, 0, none⟩ (.int .u8 128)) w.heap.size (bcells (padL N)) 5 := by
      have := (Row.new w (bcells (List.replicate m 0#8)) 5).set 0 (.int .u8 (ub 128#8))
      rw [← HW.out, bcells_set, HM.out, Nat.add_comm 1 z, List.replicate_succ, List.set_cons_zero, ← hPL] at this
      exact this
    intro k hk
    refine ⟨_, 0, rfl, ?_⟩
    rw [Nat.zero_add]
    exact R.cell k _ (bcells_get hk)
  · have hb : Below w.heap.size w w1 := by rw [HW.out]; exact (Below.refl _ _).alloc (Nat.le_refl _) _
    exact hb.setCell (p := ⟨w.heap.size, 0, none⟩) (Nat.le_refl w.heap.size) _
end Go.Proofs.YtjpllcliehgnfaaDoor
