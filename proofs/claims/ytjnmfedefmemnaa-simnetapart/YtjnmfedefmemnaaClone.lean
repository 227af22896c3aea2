import Derived.Test.YtjnmfedefmemnaaNew1
namespace Go.Proofs.Ytjnmfedefmemnaa
open Go.RowKit
set_option maxRecDepth 100000

def z (n : Nat) : List (BitVec 8) := List.replicate n 0#8
theorem z_len (n : Nat) : (z n).length = n := List.length_replicate
theorem BytesAt_nil (w : World) (a : Option Addr) : BytesAt w a [] := fun k hk => by simp at hk
theorem made0 (n : Nat) : madeCells #[.int .u8 0] n = (bcells (z n)).toArray := by
  apply Array.ext_getElem?
  intro j
  by_cases h : j < n
  · simp [madeCells, bcells, h, Nat.mod_one, bv, z]; rfl
  · simp [madeCells, bcells, h, z]
theorem info5 : ∃ i : TypeInfo, Try.prog.info? 5 = some i ∧ i.zero = some (.int .u8 0) ∧ i.size = 1 ∧ i.bytes = 1 := by
  have h : (Try.prog.info? 5).map (fun i => (i.zero, i.size, i.bytes)) = some (some (.int .u8 0), 1, 1) := by kernel_rfl
  cases hq : Try.prog.info? 5 with
  | none => rw [hq] at h; cases h
  | some i => rw [hq] at h; simp at h; exact ⟨i, rfl, h.1, h.2.1, h.2.2⟩
theorem make_run (w : World) (n : Nat) (hn : n ≤ 140737488355328) : (Instr.makeSlice 22 (.int .i64 (n : Int)) (.int .i64 (n : Int))).run Try.prog w = .ok (.slice (some ⟨w.heap.size, 0, none⟩) n n) (w.alloc (.cells (bcells (z n)).toArray 5)) := by
  obtain ⟨i, h1, h2, h3, h4⟩ := info5
  have hr := run_make (P := Try.prog) w 22 5 i (.int .u8 0) Try.underlying22 h1 h2 .i64 .i64 (n : Int) (n : Int) (by omega) (by omega) (by rw [h4]; omega) (by omega)
  simp only [Int.toNat_natCast, h3, Nat.mul_one, Value.cells, made0] at hr
  exact hr
theorem Row.bytes {w : World} {g : Nat} {bs : List (BitVec 8)} {t : TypeId} (h : Row w g (bcells bs) t) : BytesAt w (some ⟨g, 0, none⟩) bs := fun k hk => ⟨g, 0, rfl, by rw [Nat.zero_add]; exact h.cell k _ (bcells_get hk)⟩

set_option maxHeartbeats 1000000 in
/-- clone: bytes of their own, without spare room. -/
theorem clone_any {w : World} {a : Option Addr} {n cap : Nat} {bs : List (BitVec 8)} (hB : BytesAt w a bs) (hn : bs.length = n) (hl : n ≤ 140737488355328) :
    Calls Try.prog 39 #[.slice a n cap] w fun e w' => ∃ g', e = .returned (.slice (some ⟨g', 0, none⟩) n n) ∧ w.heap.size ≤ g' ∧ Row w' g' (bcells bs) 5 ∧ Below w.heap.size w w' := by
  have HB : Hid (BytesAt w a bs) := hB
  have HN : Hid _ := hn
  have HL : Hid _ := hl
  clear hB hn hl
  have hmk := make_run w n HL.out
  by_cases h0 : bs = []
  · subst h0
    have e0 : n = 0 := HN.out.symm
    subst e0
    clear hmk
    have hmk : (Instr.makeSlice 22 (.int .i64 0) (.int .i64 0)).run Try.prog w = .ok (.slice (some ⟨w.heap.size, 0, none⟩) 0 0) (w.alloc (.cells (bcells []).toArray 5)) := make_run w 0 (by decide)
    go_enter Try.func39, Try.ntmps39
    go_upto_region 2 with (fail)
    refine wp_world fun W1 HW => ?_
    have HR1 : Hid (Row W1 w.heap.size (bcells []) 5) := by show Row _ _ _ _; rw [HW.out]; exact Row.new _ _ _
    have HB1 : Hid (Below w.heap.size w W1) := by show Below _ _ _; rw [HW.out]; exact (Below.refl _ _).alloc (Nat.le_refl _) _
    clear HW hmk
    have hrun := run_copy_none (P := Try.prog) W1 22 22 3 5 (some ⟨w.heap.size, 0, none⟩) a 0 0 0 cap Try.underlying22 (by kernel_rfl) rfl
    go_wp2
    go_ret
    exact ⟨_, rfl, Nat.le_refl _, HR1.out, HB1.out⟩
  · have hpos : 0 < bs.length := by cases bs with | nil => exact absurd rfl h0 | cons x l => simp
    obtain ⟨g, o, rfl, hx⟩ := HB.out 0 hpos
    clear hx h0 hpos
    go_enter Try.func39, Try.ntmps39
    go_upto_region 2 with (fail)
    refine wp_world fun W1 HW => ?_
    have HR1 : Hid (Row W1 w.heap.size (bcells (z n)) 5) := by show Row _ _ _ _; rw [HW.out]; exact Row.new _ _ _
    have HB1 : Hid (Below w.heap.size w W1) := by show Below _ _ _; rw [HW.out]; exact (Below.refl _ _).alloc (Nat.le_refl _) _
    clear HW hmk
    have HSRC : BytesAt W1 (some ⟨g, o, none⟩) bs := HB.out.kept HB1.out
    have hrun := run_copy_row (P := Try.prog) W1 22 22 3 5 w.heap.size 0 n n ⟨g, o, none⟩ n cap (bcells (z n)).toArray 5 (bcells bs) Try.underlying22 (by kernel_rfl) HR1.out.at_ (by rw [bcells_len, HN.out]; simp) (fun j v hv => by
      have hj : j < bs.length := by have := (List.getElem?_eq_some_iff.1 hv).1; rwa [bcells_len] at this
      obtain ⟨g2, o2, e2, c2⟩ := HSRC j hj
      cases e2
      rw [bcells_get hj] at hv
      rw [Addr.add_mid, c2]
      exact hv) (by rw [bcells_len, HN.out]; simp [bcells_len, z_len]) (bcells_one _)
    have hlist : (bcells (z n)).toArray.toList.take 0 ++ bcells bs ++ (bcells (z n)).toArray.toList.drop (0 + (bcells bs).length) = bcells bs := by
      rw [List.take_zero, List.nil_append, List.toList_toArray, List.drop_eq_nil_of_le (by rw [bcells_len, bcells_len, z_len, HN.out]; omega), List.append_nil]
    rw [hlist] at hrun
    obtain ⟨W2, hc⟩ : ∃ wc, wc = W1.setRow w.heap.size (bcells bs).toArray := ⟨_, rfl⟩
    rw [← hc, bcells_len, HN.out] at hrun
    have HR2 : Hid (Row W2 w.heap.size (bcells bs) 5) := by show Row _ _ _ _; rw [hc]; exact HR1.out.row _
    have HB2 : Hid (Below w.heap.size w W2) := by show Below _ _ _; rw [hc]; exact below_setRow HB1.out (Nat.le_refl _) _
    clear HR1 HB1 hc hlist HSRC
    go_wp2
    go_ret
    exact ⟨_, rfl, Nat.le_refl _, HR2.out, HB2.out⟩

/-- A frame that lies in a bag, and is not spoilt. -/
def PAt (w : World) (q : Nat) (bs : List (BitVec 8)) : Prop := ∃ g, Row w q [.slice (some ⟨g, 0, none⟩) bs.length bs.length, .map none] 84 ∧ Row w g (bcells bs) 5
theorem Row.type {w : World} {g : Nat} {c c' : List Value} {t t' : TypeId} (h : Row w g c t) (h' : Row w g c' t') : t = t' := by
  have := h.at_.symm.trans h'.at_
  injection this with h1
  injection h1
theorem Row.ne {w : World} {g g' : Nat} {c c' : List Value} {t t' : TypeId} (h : Row w g c t) (h' : Row w g' c' t') (hne : t ≠ t') : g ≠ g' := fun e => by subst e; exact hne (h.type h')
theorem PAt.kept {w w' : World} {q : Nat} {bs : List (BitVec 8)} (h : PAt w q bs) (hb : Below w.heap.size w w') : PAt w' q bs := by
  obtain ⟨g, h1, h2⟩ := h
  exact ⟨g, h1.kept hb h1.lt, h2.kept hb h2.lt⟩
/-- Frames stay, whatever is turned in the paths' block and in bags. -/
theorem PAt.only {S : List Nat} {w w' : World} {q : Nat} {bs : List (BitVec 8)} (h : PAt w q bs) (ho : Only S w w') (hS : ∀ x ∈ S, ∃ c t, Row w x c t ∧ t ≠ 84 ∧ t ≠ 5) : PAt w' q bs := by
  obtain ⟨g, h1, h2⟩ := h
  refine ⟨g, ho.row h1 fun hm => ?_, ho.row h2 fun hm => ?_⟩
  · obtain ⟨c, t, r, n1, n2⟩ := hS _ hm
    exact n1 (r.type h1)
  · obtain ⟨c, t, r, n1, n2⟩ := hS _ hm
    exact n2 (r.type h2)
set_option maxHeartbeats 400000 in
theorem parcel_any {w : World} {a : Option Addr} {n cap : Nat} {bs : List (BitVec 8)} (hB : BytesAt w a bs) (hn : bs.length = n) (hl : n ≤ 140737488355328) :
    Calls Try.prog 26 #[.slice a n cap] w fun e w' => ∃ q, e = .returned (.pointer (some ⟨q, 0, none⟩)) ∧ w.heap.size ≤ q ∧ PAt w' q bs ∧ Below w.heap.size w w' := by
  have HC := hid (clone_any (cap := cap) hB hn hl)
  have HN := hid hn
  clear hB hn hl
  go_enter Try.func26, Try.ntmps26
  go_wp2_with (go_at_call 39; refine Calls.mono HC.out ?_; rintro e w1 ⟨g, rfl, hg, hr, hb⟩; have HG := hid hg; have HR := hid hr; have HB := hid hb; clear hg hr hb)
  go_ret
  refine ⟨_, rfl, HB.out.size, ⟨g, ?_, HR.out.alloc _⟩, HB.out.alloc HB.out.size _⟩
  rw [HN.out]
  exact Row.new' _ _ _ _ _ rfl rfl
end Go.Proofs.Ytjnmfedefmemnaa
