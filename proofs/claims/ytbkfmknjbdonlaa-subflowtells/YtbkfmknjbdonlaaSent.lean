import Derived.Test.YtbkfmknjbdonlaaIvIter
import Derived.Test.YtbkfmknjbdonlaaIvUnion
import Derived.Test.YtbkfmknjbdonlaaIvSorted
import Derived.Test.YtbkfmknjbdonlaaTick1
namespace Go.Proofs.Ytbkfmknjbdonlaa
open Go.RowKit Go.Maps
set_option maxRecDepth 100000

/-- The numbers of these ranges that were given to frames. -/
structure Told (L : List Rg) (nx : Int) (S : List Rg) : Prop where
  fit : Fit S
  mem : ∀ y, mem S y ↔ mem L y ∧ y < nx
theorem mem_perm {A B : List Rg} (h : A.Perm B) (y : Int) : mem A y ↔ mem B y := by
  unfold mem
  constructor
  · rintro ⟨r, hr, h1⟩; exact ⟨r, h.mem_iff.1 hr, h1⟩
  · rintro ⟨r, hr, h1⟩; exact ⟨r, h.mem_iff.2 hr, h1⟩
theorem told_of {L L' : List Rg} (hp : L'.Perm L) (hw : ∀ r ∈ L, 0 ≤ r.1 ∧ r.2 ≤ 18446744073709551615) {nx : Int} (hn0 : 0 ≤ nx) : Told L nx (remL (addAll L') (nx, 18446744073709551615)) := by
  have hw' : ∀ r ∈ L', 0 ≤ r.1 ∧ r.2 ≤ 18446744073709551615 := fun r hr => hw r (hp.mem_iff.1 hr)
  have hF := (addAll_fit L' hw' L'.length (Nat.le_refl _)).1
  rw [List.take_length] at hF
  have hm := addAll_mem L' hw'
  refine ⟨remL_fit hF _ hn0 (Int.le_refl _), fun y => ?_⟩
  rw [remL_mem hF]
  have h1 := hm y L'.length (Nat.le_refl _)
  rw [List.take_length] at h1
  rw [h1, mem_perm hp]
  constructor
  · rintro ⟨h2, h3⟩
    refine ⟨h2, ?_⟩
    obtain ⟨r, hr, h4, h5⟩ := h2
    have := (hw r hr).2
    simp only at h3
    omega
  · rintro ⟨h2, h3⟩
    exact ⟨h2, by simp only; omega⟩
set_option maxHeartbeats 1000000 in
theorem sent_any {w : World} {p b g : Nat} {F : Fl} (h : FlowAt w p b g F) (ok : F.Ok) {a : Option Addr} {cap : Nat} {L : List Rg} (C : Cells w a L) (hl : (L.length + 3) * 16 ≤ 140737488355328) (hw : ∀ r ∈ L, 0 ≤ r.1 ∧ r.2 ≤ 18446744073709551615) :
    Calls Try.prog 46 #[.pointer (some ⟨p, 0, none⟩), .slice a L.length cap] w fun e w' => ∃ q, e = .returned (.pointer (some ⟨q, 0, none⟩)) ∧ ∃ v S, Told L F.next S ∧ S.length ≤ L.length + 1 ∧ Own w.heap.size w' q v S ∧ Below w.heap.size w w' := by
  have hN := new_any (cap := cap) sort_any C (by omega) hw
  have H := hid h
  have HO := hid ok
  have HW := hid hw
  clear h ok hw C
  go_enter Try.func46, Try.ntmps46
  go_wp2_with (go_at_call 32; refine hN.mono ?_; rintro e w1 ⟨q, rfl, v, L', hp, hO, hb⟩; have HP := hid hp; have HQ := hid hO; have HB := hid hb; have c4 := (FlowAt.kept H.out hb).row.cell 4 _ rfl; clear hp hO hb hN)
  have hw' : ∀ r ∈ L', 0 ≤ r.1 ∧ r.2 ≤ 18446744073709551615 := fun r hr => HW.out r (HP.out.mem_iff.1 hr)
  have hF := addAll_fit L' hw' L'.length (Nat.le_refl _)
  rw [List.take_length] at hF
  have hlp := HP.out.length_eq
  have hR := rem_any HQ.out.set hF.1 (by omega) (F.next, 18446744073709551615) HO.out.next0 (Int.le_refl _)
  have HT := hid (told_of HP.out HW.out HO.out.next0)
  have HL := hid (show (remL (addAll L') (F.next, 18446744073709551615)).length ≤ L.length + 1 from by have := remL_length hF.1 (F.next, 18446744073709551615); omega)
  clear hw' hF hlp
  go_wp2_with (go_at_call 35; refine hR.mono ?_; rintro e w2 ⟨rfl, v', hS, hT⟩; have HX := hid (HQ.out.turned hS hT); clear hS hT hR)
  go_ret
  exact ⟨q, rfl, v', _, HT.out, HL.out, HX.out.1, HB.out.trans HX.out.2⟩
end Go.Proofs.Ytbkfmknjbdonlaa
