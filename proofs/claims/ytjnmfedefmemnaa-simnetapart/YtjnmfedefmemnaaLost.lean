import Derived.Test.YtjnmfedefmemnaaLane
namespace Go.Proofs.Ytjnmfedefmemnaa
open Go.RowKit
set_option maxRecDepth 100000
section
variable {B : Nat} {w w' : World} {p g n k d : Nat} {up : Bool} {C L : Int} {c : List Value} {v : Value} {qs : List Nat} {fs : List (List (BitVec 8))}
set_option maxHeartbeats 1000000 in
theorem Lane.lost (h : Lane B w p g n k d up C L c v qs fs) (hlt : up = false ∨ C ≤ (fs.length : Int)) (hL0 : 0 ≤ L) (hL1 : L ≤ 1000000000000000) (fr : Value) :
    Calls Try.prog 10 #[.pointer (some ⟨p, 0, none⟩), .int .i64 k, .int .i64 d, fr] w fun e w' => e = .returned (.tuple #[.bool false, .int .i64 0]) ∧ ∃ c', Lane B w' p g n k d up C (L + 1) c' v qs fs ∧ SameBut k d c c' ∧ Only [g] w w' := by
  obtain ⟨P, hP⟩ := h.hput
  have hd := h.hd
  refine (put_lost h.net h.row h.hk h.hd h.hup h.hcap hP h.hlost h.hbag h.bag (by rw [h.cnt]; exact hlt) hL0 hL1).mono ?_
  rintro e w' ⟨rfl, P', hr, ho⟩
  refine ⟨rfl, (c.set (k * 16 + 4 + d) (.int .u64 P')).set (k * 16 + 6 + d) (.int .u64 (L + 1)), ?_, ((SameBut.refl k d c).set (k * 16 + 4 + d) (by omega) _).set (k * 16 + 6 + d) (by omega) _, ho⟩
  have ho' : Only (g :: blk v) w w' := ho.wider (fun x hx => by simp at hx; simp [hx])
  have hk := h.keeps ho'
  have e2 : ∀ i {u : Value}, c[i]? = some u → i ≠ k * 16 + 4 + d → i ≠ k * 16 + 6 + d → ((c.set (k * 16 + 4 + d) (.int .u64 P')).set (k * 16 + 6 + d) (.int .u64 (L + 1)))[i]? = some u := fun i u hu n1 n2 => set_at (set_at hu n1) n2
  have hin : k * 16 + 6 + d < c.length := (List.getElem?_eq_some_iff.1 h.hlost).1
  obtain ⟨T, hT⟩ := h.htak
  obtain ⟨T2, hT2⟩ := h.htwi
  exact
    { net := hk.row h.net (by decide) (by decide), row := hr, len := by simp [h.len], one := one_set (one_set h.one _ rfl) _ rfl, bp := h.bp, bg := h.bg, hk := h.hk, hd := h.hd
      hup := e2 _ h.hup (by omega) (by omega), hcap := e2 _ h.hcap (by omega) (by omega)
      hput := ⟨P', set_at (by rw [List.getElem?_set_self (List.getElem?_eq_some_iff.1 hP).1]) (by omega)⟩
      hlost := by rw [List.getElem?_set_self (by simpa using hin)]
      htak := ⟨T, e2 _ hT (by omega) (by omega)⟩, htwi := ⟨T2, e2 _ hT2 (by omega) (by omega)⟩
      hbag := e2 _ h.hbag (by omega) (by omega)
      bag := h.bag.only ho (fun x hx hm => by
        obtain ⟨c', R'⟩ := h.bag.blkRow x hx
        have : x = g := by simpa using hm
        subst this
        exact absurd (R'.type h.row) (by decide))
      bb := h.bb, cap30 := h.cap30, room := h.room, cnt := h.cnt
      pk := fun j q f h1 h2 => h.pkOnly ho' (h.pk j q f h1 h2)
      fl := h.fl }
end
end Go.Proofs.Ytjnmfedefmemnaa
