import Derived.Test.YtjhkoanjocdboaaDoorKeyed0
namespace Go.Proofs.YtjhkoanjocdboaaDoor
open Go.RowKit
set_option maxRecDepth 100000

theorem parts_new {w0 : World} {a2 : Option Addr} {c2 : Nat} {t : List (BitVec 8)} (hT : BytesAt w0 a2 t) (l2 : t.length ≤ c2) (m2 : c2 ≤ 281474976710656) : PartsC (w0.alloc (.cells #[.slice a2 t.length c2] 24)) (some ⟨w0.heap.size, 0, none⟩) [t] :=
  parts_one (ad := a2) (cap := c2) (by simp) (hT.kept ((Below.refl _ _).alloc (Nat.le_refl _) _)) l2 m2
/-- Of(text), the list of one part made at the call. -/
theorem of_one {w0 : World} {a2 : Option Addr} {c2 : Nat} {t : List (BitVec 8)} (hT : BytesAt w0 a2 t) (l2 : t.length ≤ c2) (m2 : c2 ≤ 281474976710656) (hK : KTab w0) (h2 : 2 ≤ w0.heap.size) :
    Calls Tryd.prog 21 #[.slice (some ⟨w0.heap.size, 0, none⟩) 1 1] (w0.alloc (.cells #[.slice a2 t.length c2] 24)) fun e w' => e = .returned (.agg (bcells (sha t)).toArray) ∧ Below w0.heap.size w0 w' := by
  have b1 : Below w0.heap.size w0 (w0.alloc (.cells #[.slice a2 t.length c2] 24)) := (Below.refl _ _).alloc (Nat.le_refl _) _
  have := of_any (cap := 1) (parts_new hT l2 m2) (by simp) (hK.kept b1) (by have := b1.size; omega)
  rw [show [t].flatten = t by simp] at this
  refine this.mono ?_
  rintro e w' ⟨he, hb⟩
  exact ⟨he, b1.trans (hb.mono b1.size)⟩
/-- Of(x, y), likewise; the lengths are told by numbers. -/
theorem of_two {w0 : World} {ax ay : Option Addr} {cx cy nx ny : Nat} {x y : List (BitVec 8)} (hX : BytesAt w0 ax x) (hY : BytesAt w0 ay y) (ex : x.length = nx) (ey : y.length = ny) (lx : nx ≤ cx) (mx : cx ≤ 281474976710656) (ly : ny ≤ cy) (my : cy ≤ 281474976710656) (hK : KTab w0) (h2 : 2 ≤ w0.heap.size) :
    Calls Tryd.prog 21 #[.slice (some ⟨w0.heap.size, 0, none⟩) 2 2] (w0.alloc (.cells #[.slice ax nx cx, .slice ay ny cy] 24)) fun e w' => e = .returned (.agg (bcells (sha (x ++ y))).toArray) ∧ Below w0.heap.size w0 w' := by
  subst ex ey
  have b1 : Below w0.heap.size w0 (w0.alloc (.cells #[.slice ax x.length cx, .slice ay y.length cy] 24)) := (Below.refl _ _).alloc (Nat.le_refl _) _
  have hP : PartsC (w0.alloc (.cells #[.slice ax x.length cx, .slice ay y.length cy] 24)) (some ⟨w0.heap.size, 0, none⟩) [x, y] := by
    intro k hk
    have hk2 : k < 2 := by simpa using hk
    rcases (show k = 0 ∨ k = 1 by omega) with rfl | rfl
    · exact ⟨w0.heap.size, 0, ax, cx, rfl, by simp, hX.kept b1, lx, mx⟩
    · exact ⟨w0.heap.size, 0, ay, cy, rfl, by simp, hY.kept b1, ly, my⟩
  have := of_any (cap := 2) hP (by simp) (hK.kept b1) (by have := b1.size; omega)
  rw [show [x, y].flatten = x ++ y by simp] at this
  refine this.mono ?_
  rintro e w' ⟨he, hb⟩
  exact ⟨he, b1.trans (hb.mono b1.size)⟩
/-- Mac(key, text), likewise. -/
theorem mac_one {w0 : World} {a a2 : Option Addr} {c c2 n : Nat} {bs t : List (BitVec 8)} (hB : BytesAt w0 a bs) (en : bs.length = n) (hle : n ≤ c) (hcap : 64 < n → c ≤ 281474976710656) (hT : BytesAt w0 a2 t) (l2 : t.length ≤ c2) (m2 : c2 ≤ 281474976710656) (hK : KTab w0) (h2 : 2 ≤ w0.heap.size) :
    Calls Tryd.prog 22 #[.slice a n c, .slice (some ⟨w0.heap.size, 0, none⟩) 1 1] (w0.alloc (.cells #[.slice a2 t.length c2] 24)) fun e w' => e = .returned (.agg (bcells (macL bs t)).toArray) ∧ Below w0.heap.size w0 w' := by
  subst en
  have b1 : Below w0.heap.size w0 (w0.alloc (.cells #[.slice a2 t.length c2] 24)) := (Below.refl _ _).alloc (Nat.le_refl _) _
  have := mac_any (pcap := 1) (hB.kept b1) hle hcap (parts_new hT l2 m2) (by simp) (hK.kept b1) (by have := b1.size; omega)
  rw [show [t].flatten = t by simp] at this
  refine this.mono ?_
  rintro e w' ⟨he, hb⟩
  exact ⟨he, b1.trans (hb.mono b1.size)⟩
theorem mac_len (k c : List (BitVec 8)) : (macL k c).length = 32 := sha_len _
end Go.Proofs.YtjhkoanjocdboaaDoor
