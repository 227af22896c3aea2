import Derived.Test.YtjpllcliehgnfaaDoorJ0
namespace Go.Proofs.YtjpllcliehgnfaaDoor
open Go.RowKit
set_option maxRecDepth 100000

/-- A row of bytes of its own that is handed out: not below B, as long as told. -/
def OwnB (w : World) (B : Nat) (v : Value) (bs : List (BitVec 8)) : Prop := w.ownsRow B 5 1 v bs.length (bcells bs)
theorem OwnB.new (w : World) (bs : List (BitVec 8)) (n : Nat) (hn : bs.length = n) (h : n ≤ 1000) : OwnB (w.alloc (.cells (bcells bs).toArray 5)) w.heap.size (.slice (some ⟨w.heap.size, 0, none⟩) n n) bs := by
  subst hn
  refine ⟨by rw [bcells_len, Nat.mul_one], .inr ⟨w.heap.size, bs.length, (bcells bs).toArray, rfl, Nat.le_refl _, heap_alloc_last _ _, Nat.le_refl _, by unfold maxLen; omega, by simp [bcells_len], by rw [Nat.mul_one, ← bcells_len bs, List.take_of_length_le (by simp)]⟩⟩
theorem OwnB.kept {w w' : World} {B : Nat} {v : Value} {bs : List (BitVec 8)} (h : OwnB w B v bs) (hb : Below w.heap.size w w') : OwnB w' B v bs := by
  refine ⟨h.1, ?_⟩
  rcases h.2 with e | ⟨g, cap, cur, hv, h1, hg, h2⟩
  · exact .inl e
  · refine .inr ⟨g, cap, cur, hv, h1, ?_, h2⟩
    rw [hb.block g (Array.getElem?_eq_some_iff.1 hg).1]
    exact hg
theorem OwnB.less {w : World} {B C : Nat} {v : Value} {bs : List (BitVec 8)} (h : OwnB w B v bs) (hc : C ≤ B) : OwnB w C v bs := by
  refine ⟨h.1, ?_⟩
  rcases h.2 with e | ⟨g, cap, cur, hv, h1, h2⟩
  · exact .inl e
  · exact .inr ⟨g, cap, cur, hv, Nat.le_trans hc h1, h2⟩
/-- As a slice. -/
theorem OwnB.shape {w : World} {B : Nat} {v : Value} {bs : List (BitVec 8)} (h : OwnB w B v bs) : ∃ a c, v = .slice a bs.length c ∧ BytesAt w a bs ∧ bs.length ≤ c ∧ c ≤ maxLen := by
  rcases h.2 with ⟨rfl, hn⟩ | ⟨g, cap, cur, rfl, _, hg, hc, hm, hs, ht⟩
  · exact ⟨none, 0, by rw [hn], fun k hk => by omega, by omega, by unfold maxLen; omega⟩
  · refine ⟨_, _, rfl, ?_, hc, hm⟩
    intro k hk
    refine ⟨g, 0, rfl, ?_⟩
    rw [Nat.mul_one] at ht
    rw [Nat.zero_add, cell_of_row w g k cur 5 (0, 0) hg, ← bcells_get hk, ← ht, List.getElem?_take, if_pos hk]
    simp
theorem OwnB.some {w : World} {B : Nat} {v : Value} {bs : List (BitVec 8)} (h : OwnB w B v bs) (hp : 0 < bs.length) : ∃ g c, v = .slice (some ⟨g, 0, none⟩) bs.length c ∧ B ≤ g ∧ g < w.heap.size ∧ BytesAt w (some ⟨g, 0, none⟩) bs ∧ bs.length ≤ c ∧ c ≤ maxLen := by
  obtain ⟨a, c, e, hb, hl, hm⟩ := h.shape
  rcases h.2 with ⟨_, hn⟩ | ⟨g, cap, cur, e2, hB, hg, _⟩
  · omega
  · rw [e] at e2
    cases e2
    exact ⟨g, c, e, hB, (Array.getElem?_eq_some_iff.1 hg).1, hb, hl, hm⟩
theorem below_new (w : World) (o : Obj) : Below w.heap.size w (w.alloc o) := (Below.refl _ _).alloc (Nat.le_refl _) _

set_option maxHeartbeats 800000 in
/-- eight(k) -/
theorem jeight_any (w : World) (N : Nat) : Calls Tryd.prog 50 #[.int .u64 (N : Int)] w fun e w' => ∃ v, e = .returned v ∧ OwnB w' w.heap.size v (keyB N) ∧ Below w.heap.size w w' := by
  have h1 := hi_wrap N
  have h2 := lo_wrap N
  have h1' : ((N : Int) / 4294967296) % 4294967296 = u (hiW N) := by rw [← IntKind.wrap_u32]; exact h1
  have h2' : ((N : Int)) % 4294967296 = u (loW N) := by rw [← IntKind.wrap_u32]; exact h2
  have HKB : Hid (keyB N = fourL (hiW N) ++ fourL (loW N)) := rfl
  generalize keyB N = KB at *
  generalize hiW N = x at *
  generalize loW N = y at *
  go_enter Tryd.func50, Tryd.ntmps50
  go_wp2_with (first
    | (at_builtin; refine wpAppendB (.tmp 6) (.tmp 9) rfl rfl (B := w.heap.size) (xs := fourL x) (ys := fourL y) rfl HO1.out (fourL_len y) rfl HY2.out (by rw [fourL_len, fourL_len]; decide) HB2.out.size fun w3 v3 HO3 HB3 => ?_; have HBA := hid (HB2.out.trans HB3.out))
    | (go_at_call_of 59 (Value.int IntKind.u32 (u x)); refine (four_any _ x).mono ?_; rintro e w1 ⟨rfl, hw1⟩; have HW1 := hid hw1; clear hw1)
    | (go_at_call_of 59 (Value.int IntKind.u32 (u y)); refine (four_any _ y).mono ?_; rintro e w2 ⟨rfl, hw2⟩
       have b1 : Below w.heap.size w w1 := by rw [HW1.out]; exact below_new _ _
       have b2 : Below w1.heap.size w1 w2 := by rw [hw2]; exact below_new _ _
       have HO1 := hid ((show OwnB w1 w.heap.size (.slice (some ⟨w.heap.size, 0, none⟩) 4 4) (fourL x) by rw [HW1.out]; exact OwnB.new w (fourL x) 4 rfl (by decide)).kept b2)
       have HY2 : Hid (BytesAt w2 (some ⟨w1.heap.size, 0, none⟩) (fourL y)) := by
         show BytesAt _ _ _
         rw [hw2]
         exact (Row.new _ (bcells (fourL y)) 5).bytesAt
       have HB2 := hid (b1.trans (b2.mono b1.size))
       clear b1 b2 hw2))
  go_ret
  exact ⟨_, rfl, by rw [HKB.out]; exact HO3.out, HBA.out⟩
end Go.Proofs.YtjpllcliehgnfaaDoor
