import Derived.Test.YtahkbklhngiloaaOr1
namespace Go.Proofs.Ytahkbklhngiloaa
open Go.RowKit Go.Maps
set_option maxRecDepth 100000
section
variable {w0 : Nat} {wr w' : World} {p b pn po pm s : Nat} {R0 R1 : Rm} {B : Bk} {Ls : List Int} {v : Value} {i : Nat}
/-- The rows behind a call on the book. -/
theorem OrI.rows1 (h : OrI w0 wr p b pn po pm s R0 R1 B Ls v i) {S : Nat → Prop} {w1 : World} (f1 : Fr S wr w1) (hS : ∀ k, S k → Foot p b B k) :
    Row w1 pn [.int .u64 B.n0, .int .u64 B.n1] 31 ∧ Row w1 po [.int .i64 B.o0, .int .i64 B.o1] 32 ∧ w1.ownsRow w0 22 1 v Ls.length (ucells Ls) ∧ Below w0 wr w1 :=
  ⟨f1.row h.rn (fun e => h.at_.notRow h.rn (by decide) (by decide) (hS _ e)), f1.row h.ro (fun e => h.at_.notRow h.ro (by decide) (by decide) (hS _ e)),
    own_keep h.row f1 (fun g e hs => h.at_.notOwn h.row (by decide) (by decide) e (hS _ hs)), f1.below (fun k hk => h.new k (hS k hk)) h.sz⟩
theorem OrI.mid (h : OrI w0 wr p b pn po pm s R0 R1 B Ls v i) {w1 w2 : World} {k : Nat} {x y : Value} (rn1 : Row w1 pn [.int .u64 B.n0, .int .u64 B.n1] 31) (ro1 : Row w1 po [.int .i64 B.o0, .int .i64 B.o1] 32) (hv : w1.ownsRow w0 22 1 v Ls.length (ucells Ls)) (hb : Below w0 wr w1)
    (e2 : w2 = (w1.setCell ⟨pn, k, none⟩ x).setCell ⟨po, k, none⟩ y) : w2.ownsRow w0 22 1 v Ls.length (ucells Ls) ∧ Below w0 wr w2 := by
  have f2 : Fr (fun k => k = pn ∨ k = po) w1 w2 := by rw [e2]; exact ((Fr.refl _ _).setCell pn k _ (.inl (.inl rfl))).setCell po k _ (.inl (.inr rfl))
  exact ⟨own_keep hv f2 (fun g e hs => by rcases hs with e' | e'; exact own_notRow hv rn1 (by decide) e e'; exact own_notRow hv ro1 (by decide) e e'), hb.trans (f2.below (fun k hk => by have := h.gn; have := h.go_; omega) (Nat.le_trans h.sz hb.size))⟩
theorem OrI.mid2 (h : OrI w0 wr p b pn po pm s R0 R1 B Ls v i) {w1 w2 : World} {k : Nat} {y : Value} (ro1 : Row w1 po [.int .i64 B.o0, .int .i64 B.o1] 32) (hv : w1.ownsRow w0 22 1 v Ls.length (ucells Ls)) (hb : Below w0 wr w1)
    (e2 : w2 = w1.setCell ⟨po, k, none⟩ y) : w2.ownsRow w0 22 1 v Ls.length (ucells Ls) ∧ Below w0 wr w2 := by
  have f2 : Fr (fun k => k = po) w1 w2 := by rw [e2]; exact (Fr.refl _ _).setCell po k _ (.inl rfl)
  exact ⟨own_keep hv f2 (fun g e hs => own_notRow hv ro1 (by decide) e hs), hb.trans (f2.below (fun k hk => by have := h.go_; omega) (Nat.le_trans h.sz hb.size))⟩
/-- A number that is in no stream. -/
theorem OrI.shut (h : OrI w0 wr p b pn po pm s R0 R1 B Ls v i) {id : Int} (hn : id ∉ Ls) : B.shut id := fun x hx => by
  obtain ⟨h1, h2⟩ := fnd_some hx
  exact absurd ((h.mem id).2 ⟨x, h1, h2⟩) hn
theorem OrI.has (h : OrI w0 wr p b pn po pm s R0 R1 B Ls v i) {id : Int} (hn : id ∈ Ls) : ∃ x, x ∈ B.U ∧ x.num = id ∧ fnd B.U id = some x := by
  obtain ⟨x, hx, e⟩ := (h.mem id).1 hn
  exact ⟨x, hx, e, by rw [← e]; exact fnd_of h.at_.rise hx⟩
end
theorem own_mono {w : World} {base base' : Nat} {e : TypeId} {size : Nat} {v : Value} {n : Nat} {xs : List Value} (h : w.ownsRow base e size v n xs) (hb : base' ≤ base) : w.ownsRow base' e size v n xs := by
  refine ⟨h.1, h.2.imp id ?_⟩
  rintro ⟨g, cap, cur, h1, h2, h3⟩
  exact ⟨g, cap, cur, h1, Nat.le_trans hb h2, h3⟩
theorem take_nd {l : List Int} {m : Nat} (h : m < l.length) (hn : l.Nodup) : (∀ z, z ∈ l.take m ++ l.drop (m + 1) ↔ z ∈ l ∧ z ≠ l[m]) ∧ (l.take m ++ l.drop (m + 1)).Nodup ∧ (l.take m ++ l.drop (m + 1)).length ≤ l.length := by
  have e : l = l.take m ++ l[m] :: l.drop (m + 1) := by rw [List.getElem_cons_drop, List.take_append_drop]
  have hs : (l.take m ++ l.drop (m + 1)).Sublist l := by
    conv => rhs; rw [e]
    exact List.Sublist.append_left (List.sublist_cons_self _ _) _
  have hn2 : (l.take m ++ l[m] :: l.drop (m + 1)).Nodup := e ▸ hn
  rw [List.nodup_append] at hn2
  obtain ⟨n1, n2, n3⟩ := hn2
  obtain ⟨n4, n5⟩ := List.nodup_cons.1 n2
  refine ⟨fun z => ⟨fun hz => ⟨hs.subset hz, fun ez => ?_⟩, fun ⟨hz, hne⟩ => ?_⟩, hn.sublist hs, hs.length_le⟩
  · rw [ez] at hz
    rcases List.mem_append.1 hz with h1 | h1
    · exact n3 _ h1 _ List.mem_cons_self rfl
    · exact n4 h1
  · rw [e] at hz
    rcases List.mem_append.1 hz with h1 | h1
    · exact List.mem_append_left _ h1
    · rcases List.mem_cons.1 h1 with h2 | h2
      · exact absurd h2 hne
      · exact List.mem_append_right _ h2
end Go.Proofs.Ytahkbklhngiloaa
