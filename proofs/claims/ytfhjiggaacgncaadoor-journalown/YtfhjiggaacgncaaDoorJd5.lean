import Derived.Test.YtfhjiggaacgncaaDoorJd3
import Derived.Deep.CutRange
namespace Go.Proofs.YtfhjiggaacgncaaDoor
open Go.RowKit Go.Maps Go.Sort
set_option maxRecDepth 100000

theorem Fr.setCell {S : Nat → Prop} {w w' : World} (h : Fr S w w') (p o : Nat) (v : Value) (hp : S p ∨ w.heap.size ≤ p) : Fr S w (w'.setCell ⟨p, o, none⟩ v) :=
  ⟨h.os, h.tape, h.output, by simp [World.setCell]; exact h.size, fun k hk hs => (Below.heap_setCell w' ⟨p, o, none⟩ v k (fun e => by have e : k = p := e; subst e; rcases hp with h1 | h1; exact hs h1; omega)).trans (h.block k hk hs)⟩
theorem within_any (w : World) (n m : Int) (h0 : 0 ≤ m) : Calls Tryd.prog 42 #[.int .i64 n, .int .i64 m] w fun e w' => e = .returned (.int .i64 (max 0 (min n m))) ∧ w' = w := by
  by_cases h1 : n < 0
  · have e : max 0 (min n m) = 0 := by omega
    have i1 : min n m = n := by omega
    rw [e]
    go_enter Tryd.func42, Tryd.ntmps42
    go_wp2
    go_ret
    exact ⟨by first | rfl | simp; omega, rfl⟩
  · by_cases h2 : n ≤ m
    · have e : max 0 (min n m) = n := by omega
      have i1 : min n m = n := by omega
      rw [e]
      go_enter Tryd.func42, Tryd.ntmps42
      go_wp2
      go_ret
      exact ⟨by first | rfl | simp; omega, rfl⟩
    · have e : max 0 (min n m) = m := by omega
      have i1 : min n m = m := by omega
      rw [e]
      go_enter Tryd.func42, Tryd.ntmps42
      go_wp2
      go_ret
      exact ⟨by first | rfl | simp; omega, rfl⟩
section
variable {w : World} {p : Nat} {D : Dk}
theorem life_any (h : DkAt w p D) : Calls Tryd.prog 97 #[pt p 0] w fun e w' => e = .returned (.int .i64 D.lives) ∧ w' = w := by
  have c := h.row.cell 3 _ rfl
  clear h
  go_enter Tryd.func97, Tryd.ntmps97
  go_wp2
  go_ret
  exact ⟨rfl, rfl⟩
theorem view_any (h : DkAt w p D) : Calls Tryd.prog 98 #[pt p 0] w fun e w' => e = .returned D.nv ∧ w' = w := by
  have c := h.row.cell 1 _ rfl
  unfold Dk.nv at *
  clear h
  go_enter Tryd.func98, Tryd.ntmps98
  go_wp2
  go_ret
  exact ⟨rfl, rfl⟩
end
/-- With nothing waiting. -/
def Dk.calm (D : Dk) (S N : List (BitVec 8)) : Dk := { D with S := S, N := N, W := [], wv := .slice none 0 0 }
theorem calm_mem {w w1 : World} {p : Nat} {D : Dk} (h : DkAt w p D) {S N : List (BitVec 8)} (hS : S.length = D.S.length) (hN : N.length = D.N.length) {X : Nat → Prop} (hF : Fr X w w1) (hXp : ¬ X p) (h1 : OwnBy w1 0 D.sv S) (h2 : OwnBy w1 0 D.nv N) :
    DkAt (w1.setCell ⟨p, 2, none⟩ (.slice none 0 0)) p (D.calm S N) := by
  have hf := (Fr.refl (fun x => x = p) w1).setCell p 2 (.slice none 0 0) (.inl rfl)
  refine ⟨?_, ?_, ?_, ⟨rfl, .inl ⟨rfl, rfl⟩⟩, fun x hx => (by cases hx), fun x hx => (by cases hx), h.sn⟩
  · have := (hF.row h.row hXp).set 2 (.slice none 0 0)
    simpa [Dk.calm, Dk.sv, Dk.nv, hS, hN] using this
  · have := hf.own h1 (fun x e e' => by simp [Dk.sv, Value.ownBlock] at e; exact h.ps (e'.symm.trans e.symm))
    show World.ownsRow _ _ _ _ _ _ _
    simpa [Dk.calm, Dk.sv, hS] using this
  · have := hf.own h2 (fun x e e' => by simp [Dk.nv, Value.ownBlock] at e; exact h.pn (e'.symm.trans e.symm))
    show World.ownsRow _ _ _ _ _ _ _
    simpa [Dk.calm, Dk.nv, hN] using this
theorem Dk.Ok.fits {D : Dk} (h : D.Ok) (hp : ∀ x ∈ D.W, 1 ≤ x.bs.length) : Fits D.S.length D.W := fun x hx => ⟨h.fit x hx, by have := h.fit x hx; have := hp x hx; omega⟩
set_option maxHeartbeats 1000000 in
/-- All writes are safe. -/
theorem dsync_any {w : World} {p : Nat} {D : Dk} (h : DkAt w p D) (hk : D.Ok) (hp : ∀ x ∈ D.W, 1 ≤ x.bs.length) (hl : D.W.length ≤ 1099511627776) :
    Calls Tryd.prog 21 #[pt p 0] w fun e w' => e = .returned (.tuple #[]) ∧ DkAt w' p (D.calm (layAll D.S D.W) D.N) ∧ Fr (fun k => k = p ∨ k = D.gs) w w' := by
  obtain ⟨a, cap, ew, hE, _⟩ := eltAt_own h.wait h.sw
  have c0 := h.row.cell 0 _ rfl
  have c2 := h.row.cell 2 _ rfl
  have hfit := hk.fits hp
  have HC := hid (save_any (cap := cap) c0 h.ps h.safe hE (fun x hx => ⟨h.by_ x hx, (h.ap x hx).1⟩) hfit (by omega))
  have HH := hid h
  have HS := hid (layAll_len D.W hfit rfl)
  rw [ew] at c2
  clear c0 hE h hk hfit hp
  go_enter Tryd.func21, Tryd.ntmps21
  go_upto_region 1 with (go_at_call 40; refine HC.out.mono ?_; rintro e w1 ⟨rfl, hO, hF⟩; have R1 := hF.row HH.out.row (fun e => HH.out.ps e); have HX := hid (And.intro hO hF); have f2 := R1.frozen 2; have d2 := R1.cell 2 _ rfl; clear hO hF R1)
  go_wp2
  refine bodyPost_end (results_none Tryd.results21 _ _ _) rfl ?_
  exact ⟨rfl, calm_mem HH.out HS.out rfl HX.out.2 (fun e => HH.out.ps e) HX.out.1 (HX.out.2.own HH.out.now (fun x e e' => HH.out.sn (by simp [Dk.nv, Value.ownBlock] at e; exact (e.trans e').symm))), (HX.out.2.wider (fun _ e => .inr e)).setCell p 2 _ (.inl (.inl rfl))⟩
end Go.Proofs.YtfhjiggaacgncaaDoor
