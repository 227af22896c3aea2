import Derived.Test.YtjpllcliehgnfaaDoorKnown
namespace Go.Proofs.YtjpllcliehgnfaaDoor
open Go.RowKit
set_option maxRecDepth 100000

@[go_sem] theorem ubx (x y : BitVec 8) : bits .xor .u8 (ub x) (ub y) = ub (x ^^^ y) := by
  show IntKind.u8.wrap ((BitVec.ofInt 8 (ub x) ^^^ BitVec.ofInt 8 (ub y)).toNat : Int) = _
  rw [ub_ofInt, ub_ofInt]; exact ub_wrap_ub _
/-- A block under a mask, its first k bytes done. -/
def mk (b : List (BitVec 8)) (m : BitVec 8) (k : Nat) : List (BitVec 8) := (b.take k).map (· ^^^ m) ++ b.drop k
def maskL (b : List (BitVec 8)) (m : BitVec 8) : List (BitVec 8) := b.map (· ^^^ m)
theorem mk_len (b : List (BitVec 8)) (m : BitVec 8) (k : Nat) : (mk b m k).length = b.length := by simp [mk]; omega
theorem mk_get (b : List (BitVec 8)) (m : BitVec 8) (k : Nat) (hk : k < b.length) : (mk b m k).getD k 0 = b.getD k 0 := by
  unfold mk
  simp [List.getD, List.getElem?_append, List.length_take, Nat.min_eq_left (Nat.le_of_lt hk)]
theorem mk_set (b : List (BitVec 8)) (m : BitVec 8) (k : Nat) (hk : k < b.length) : (mk b m k).set k (b.getD k 0 ^^^ m) = mk b m (k + 1) := by
  unfold mk
  rw [List.set_append_right _ _ (by simp; omega), List.length_map, List.length_take, Nat.min_eq_left (Nat.le_of_lt hk), Nat.sub_self, List.drop_eq_getElem_cons hk, List.set_cons_zero, List.take_succ_eq_append_getElem hk, List.map_append]
  simp [List.getD, List.getElem?_eq_getElem hk]

set_option maxHeartbeats 800000 in
theorem masked_any (w : World) (b : List (BitVec 8)) (m : BitVec 8) (hb : b.length = 64) :
    Calls Tryd.prog 69 #[.agg (bcells b).toArray, .int .u8 (ub m)] w fun e w' => e = .returned (.agg (bcells (maskL b m)).toArray) ∧ Below w.heap.size w w' := by
  have HL : Hid _ := hb
  clear hb
  go_enter Tryd.func69, Tryd.ntmps69
  go_wp2
  go_loopw [5, 6] (fun _ i wr => ∃ k : Nat, k ≤ 64 ∧ i = .int .i64 k ∧ Row wr w.heap.size (bcells (mk b m k)) 92 ∧ Row wr (w.heap.size + 1) (bcells z64) 92 ∧ Below w.heap.size w wr) (fun _ i _ => 64 - (intOf i).toNat)
  case atStart =>
    exact ⟨0, by omega, rfl, (Row.new w _ _).alloc _, Row.new' _ _ _ _ _ (by simp) rfl, ((Below.refl _ _).alloc (Nat.le_refl _) _).alloc (by simp) _⟩
  case round =>
    obtain ⟨k, hk, rfl, R0, R1, hbel⟩ := hrel
    by_cases hlt : k < 64
    · have hlt' : (k : Int) < 64 := by omega
      have c : wr.cell? ⟨w.heap.size, k, none⟩ = some (.int .u8 (ub (b.getD k 0))) := by
        rw [← mk_get b m k (by rw [HL.out]; exact hlt)]; exact bget (by rw [mk_len]; exact HL.out) R0 k hlt
      have f1 := R0.frozen k
      have HS : Hid _ := mk_set b m k (by rw [HL.out]; exact hlt)
      have HR0 : Hid _ := R0
      have HR1 : Hid _ := R1
      have HB : Hid _ := hbel
      clear R0 R1 hbel
      generalize b.getD k 0 = bk at *
      go_wp2
      go_roundw
      case rel =>
        refine ⟨k + 1, hlt, by go_num, ?_, HR1.out.setOther _ (show w.heap.size + 1 ≠ w.heap.size by omega) _, HB.out.setCell (show w.heap.size ≤ w.heap.size by omega) _⟩
        have hr := HR0.out.set k (.int .u8 (ub (bk ^^^ m)))
        rw [bcells_set, HS.out] at hr
        exact hr
      case measure => simp [intOf]; omega
    · have ek : k = 64 := by omega
      subst ek
      have e1 : mk b m 64 = maskL b m := by
        unfold mk maskL
        rw [List.take_of_length_le (by rw [HL.out]; exact Nat.le_refl _), List.drop_eq_nil_of_le (by rw [HL.out]; exact Nat.le_refl _), List.append_nil]
      rw [e1] at R0
      have i36 : (Tryd.prog.info? 92).map (·.size) = some 64 := by kernel_rfl
      have I36 : Hid _ := i36
      have HLE : Hid ((maskL b m).length = 64) := by show (maskL b m).length = 64; simp [maskL]; exact HL.out
      have HR0 : Hid _ := R0
      have HR1 : Hid _ := R1
      have HB : Hid _ := hbel
      clear R0 R1 hbel i36 e1
      generalize hE : maskL b m = E at *
      have HE : Hid _ := hE
      clear hE
      go_wp2_with (first
        | (show wpList _ _ _ (Oper.mk (some 16) (.load 92 (.tmp 2)) _ _ _ _ :: _) _ _; refine HR0.out.wpLoad 92 (.tmp 2) rfl rfl rfl _ Tryd.underlying92 rfl (by rw [bcells_len, HLE.out]; exact I36.out) ?_)
        | (show wpList _ _ _ (Oper.mk none (.store 92 (.tmp 4) (.tmp 16)) _ _ _ _ :: _) _ _; refine HR1.out.wpStore' 92 (.tmp 4) (.tmp 16) (bcells E) rfl rfl rfl rfl (by rw [bcells_len, bcells_len, HLE.out]; rfl) (bcells_one _) (by rw [bcells_len, HLE.out]; exact I36.out) ?_; intro wz HZ))
      have R : Row wz (w.heap.size + 1) (bcells E) 92 := by rw [HZ.out]; exact HR1.out.row _
      have hB : Below w.heap.size w wz := by rw [HZ.out]; exact Go.below_setRow HB.out (Nat.le_succ _) _
      exact bodyPost_ret (v := .agg (bcells E).toArray) (R.result Tryd.results69 _ rfl _ Tryd.underlying92 rfl (by rw [bcells_len, HLE.out]; exact I36.out)) rfl ⟨by rw [HE.out], hB⟩
end Go.Proofs.YtjpllcliehgnfaaDoor
