import Derived.Test.YtkhogbnoincbeabRdr6
namespace Go.Proofs.Ytkhogbnoincbeab
open Go.RowKit Go.Maps Go.Sort
set_option maxRecDepth 100000

theorem next_any {B : Nat} {w : World} {q p : Nat} {v : Value} {all : List (BitVec 8)} {left : Nat} {at_ : Int} (H : Rdr B w q p v all left at_ 0) {L : List (BitVec 8)} (hL : all.drop (all.length - left) = L) (ha : 0 ≤ at_ ∧ at_ + left < 18446744073709551616) (hl : all.length ≤ 140737488355328) :
    Calls Try.prog 10 #[.pointer (some ⟨q, 0, none⟩)] w (NxAns B w q p v all left at_ L) := by
  by_cases hv : v.ownBlock = none
  · exact next_none H hL ha hl hv
  · exact next_some H hL ha hl hv
/-- A Reader with no fault, by the bytes that are left. -/
def RdS (B : Nat) (w : World) (q p : Nat) (v : Value) (L : List (BitVec 8)) (at_ : Int) (M : Nat) : Prop := ∃ all left, Rdr B w q p v all left at_ 0 ∧ all.drop (all.length - left) = L ∧ left = L.length ∧ all.length ≤ M
section
variable {B : Nat} {w w' : World} {q p : Nat} {v : Value} {L : List (BitVec 8)} {at_ : Int} {M : Nat}
theorem RdS.kept (h : RdS B w q p v L at_ M) (hb : Below w.heap.size w w') : RdS B w' q p v L at_ M := by
  obtain ⟨all, left, h1, h2, h3, h4⟩ := h
  exact ⟨all, left, h1.kept hb, h2, h3, h4⟩
theorem rds_write (h : RdS B w q p v L at_ M) {ax : Option Addr} {n c : Nat} {bs : List (BitVec 8)} (hz : ax = none → c = 0) (hn : bs.length = n) (hB : BytesAt w ax bs) (hl : M + n ≤ 140737488355328) :
    Calls Try.prog 7 #[.pointer (some ⟨q, 0, none⟩), .slice ax n c] w fun e w' => e = .returned (.tuple #[]) ∧ ∃ v', RdS B w' q p v' (L ++ bs) at_ (M + n) ∧ Fr (fun x => x = q ∨ v.ownBlock = some x) w w' ∧ (v'.ownBlock = v.ownBlock ∨ v'.ownBlock = some w.heap.size) := by
  obtain ⟨all, left, h1, h2, h3, h4⟩ := h
  refine (write_any h1 hz hn hB (by omega)).mono ?_
  rintro e w' ⟨rfl, v', k1, k2, k3⟩
  refine ⟨rfl, v', ⟨_, _, k1, ?_, by rw [List.length_append]; omega, by rw [List.length_append]; omega⟩, k2, k3⟩
  have hle := h1.le
  rw [List.length_append, show all.length + bs.length - (left + n) = all.length - left by omega, List.drop_append_of_le_length (by omega), h2]
/-- What Next answers. -/
def NxS (B : Nat) (w : World) (q p : Nat) (v : Value) (L : List (BitVec 8)) (at_ : Int) (M : Nat) (e : Ending) (w' : World) : Prop :=
  ((allA PF.zero L).1 = 0 ∧ ∃ a9 n9 c9 v', e = .returned (.tuple #[.agg #[.int .i64 (takeG L).k, .int .u64 (takeG L).s, .int .u64 (takeG L).n, .int .i64 (takeG L).c, .int .i64 (takeG L).h, .slice a9 n9 c9], .bool true, .int .i64 0]) ∧ Dt w' w.heap.size (.slice a9 n9 c9) (takeG L).bs ∧ v'.ownBlock = v.ownBlock ∧ RdS B w' q p v' (allA PF.zero L).2.2 (at_ + ((L.length - (allA PF.zero L).2.2.length : Nat) : Int)) M ∧ Fr (fun x => x = q ∨ x = p ∨ v.ownBlock = some x) w w') ∨
  ((allA PF.zero L).1 = 174 ∧ e = .returned (.tuple #[zfr, .bool false, .int .i64 0]) ∧ RdS B w' q p v L at_ M ∧ Fr (fun x => x = q ∨ x = p ∨ v.ownBlock = some x) w w') ∨
  (¬ (allA PF.zero L).1 = 0 ∧ ¬ (allA PF.zero L).1 = 174 ∧ e = .returned (.tuple #[zfr, .bool false, .int .i64 (allA PF.zero L).1]) ∧ RdrF B w' q (.pointer (some ⟨p, 0, none⟩)) L.length at_ (allA PF.zero L).1 ∧ Fr (fun x => x = q ∨ x = p ∨ v.ownBlock = some x) w w')
theorem rds_next (h : RdS B w q p v L at_ M) (ha : 0 ≤ at_ ∧ at_ + L.length < 18446744073709551616) (hl : M ≤ 140737488355328) : Calls Try.prog 10 #[.pointer (some ⟨q, 0, none⟩)] w (NxS B w q p v L at_ M) := by
  obtain ⟨all, left, h1, h2, h3, h4⟩ := h
  subst h3
  refine (next_any h1 h2 ha (by omega)).mono ?_
  rintro e w' (⟨k0, a9, n9, c9, v', all', k1, k2, k3, k4, k5, k6, k7⟩ | ⟨k0, k1, k2, k3⟩ | ⟨k0, k0', k1, k2, k3⟩)
  · obtain ⟨t1, t2, t3⟩ := take_rest k0
    have tn : L.length - (allA PF.zero L).2.2.length = takeN L := by unfold takeN; rw [if_pos k0]
    refine .inl ⟨k0, a9, n9, c9, v', k1, k2, k3, ⟨all', _, by rw [tn]; exact k4, by rw [k5, t1], by rw [t1, List.length_drop], by omega⟩, k7⟩
  · exact .inr (.inl ⟨k0, k1, ⟨all, _, k2, h2, rfl, h4⟩, k3.wider (fun x e => .inr (.inl e))⟩)
  · exact .inr (.inr ⟨k0, k0', k1, k2, k3.wider (fun x e => e.imp id .inl)⟩)
end
/-- A row of frames, each with bytes of its own. -/
def pcells (x : PF × Value) : List Value := [.int .i64 x.1.k, .int .u64 x.1.s, .int .u64 x.1.n, .int .i64 x.1.c, .int .i64 x.1.h, x.2]
def flatP (Ps : List (PF × Value)) : List Value := Ps.flatMap pcells
theorem flatP_len : ∀ Ps : List (PF × Value), (flatP Ps).length = Ps.length * 6
  | [] => rfl
  | x :: r => by rw [flatP, List.flatMap_cons, List.length_append, ← flatP, flatP_len r, List.length_cons]; simp [pcells]; omega
theorem flatP_app (A B : List (PF × Value)) : flatP (A ++ B) = flatP A ++ flatP B := by simp [flatP]
theorem flatP_at : ∀ (Ps : List (PF × Value)) (i j : Nat) (h : i < Ps.length), j < 6 → (flatP Ps)[i * 6 + j]? = (pcells Ps[i])[j]?
  | x :: r, 0, j, _, hj => by
    rw [flatP, List.flatMap_cons, Nat.zero_mul, Nat.zero_add, List.getElem?_append_left (by simpa [pcells] using hj)]
    rfl
  | x :: r, i + 1, j, h, hj => by
    have ih := flatP_at r i j (by simpa using h) hj
    rw [flatP, List.flatMap_cons, List.getElem?_append_right (by simp [pcells]; omega), ← flatP]
    rw [show (i + 1) * 6 + j - (pcells x).length = i * 6 + j by simp [pcells]; omega, ih]
    rfl
structure FrV (w : World) (B : Nat) (v : Value) (Ps : List (PF × Value)) : Prop where
  own : w.ownsRow B 41 6 v Ps.length (flatP Ps)
  dt : ∀ x ∈ Ps, Dt w B x.2 x.1.bs
  ap : Ps.Pairwise fun x y => ∀ g, x.2.ownBlock = some g → y.2.ownBlock ≠ some g
end Go.Proofs.Ytkhogbnoincbeab
