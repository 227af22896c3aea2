import Derived.Test.YtjeokomocopjhaaFa3
import Derived.Test.YtjeokomocopjhaaFa4
namespace Go.Proofs.Ytjeokomocopjhaa
open Go.RowKit Go.Maps
set_option maxRecDepth 100000

set_option maxHeartbeats 2000000 in
/-- A stream leaves its row. -/
theorem leave_hit {w : World} {p b : Nat} {V : Nat → Value} {F : Fs} (h : FaAt w p b V F) {x : Ln} (hp : Row w x.g x.cells 44) (hc : x.s.cls < 8) (hl : (F.R x.s.cls).length ≤ 1125899906842) {A B : List Int} (hR : F.R x.s.cls = A ++ x.num :: B) (hA : x.num ∉ A) :
    Calls Try.prog 23 #[pt p 0, pt x.g 0] w fun e w' => e = .returned (.tuple #[]) ∧ ∃ V', Mv p b V F w V' { F with R := upR F.R x.s.cls (A ++ B) } w' := by
  have hpg : x.g ≠ p := fun e => absurd (cells_type hp.at_ (e ▸ h.row.at_)) (by decide)
  have hvg : (V x.s.cls).ownBlock ≠ some x.g := fun e => by
    obtain ⟨cur, hg⟩ := own_blk (h.own _ hc) e
    exact absurd (cells_type hp.at_ hg) (by decide)
  have c0 := h.row.cell _ _ (fcells_get F.q b V hc)
  have x0 := hp.cell 0 _ rfl
  have x1 := hp.cell 1 _ rfl
  have f0 := h.row.frozen (2 + x.s.cls)
  have hO := h.own _ hc
  rw [hR] at hO
  rw [hR] at hl
  have k1 : (0 : Int) ≤ (x.s.cls : Int) := by omega
  have k2 : (x.s.cls : Int) < 8 := by omega
  have hI : ∀ q, Calls Try.prog 31 #[V x.s.cls, .int .u64 x.num] (w.drewN q) fun e w' => e = .returned (.int .i64 A.length) ∧ w' = w.drewN q := fun q => index_hit (own_keep (S := fun _ => False) hO ((Fr.refl _ _).drewN q) (fun _ _ e => e)) hA (by omega)
  obtain ⟨m, hm⟩ : ∃ m, A.length = m := ⟨_, rfl⟩
  obtain ⟨n, hn⟩ : ∃ n, m + 1 = n := ⟨_, rfl⟩
  rw [hm] at hI
  have hml : (m : Int) + 1 = (n : Int) := by omega
  have hmw : IntKind.i64.wrap (n : Int) = (n : Int) := by
    have : m ≤ 1125899906842 := by rw [← hm]; simp at hl; omega
    rw [IntKind.wrap_i64]; omega
  have HD : Hid (∀ q, Calls Try.prog 32 #[V x.s.cls, .int .i64 m, .int .i64 n] (w.drewN q) fun e w' => ∃ a k cap, e = .returned (.slice a k cap) ∧ w'.cell? ⟨x.g, 1, none⟩ = some (.int .i64 x.s.cls) ∧ w'.frozen? ⟨p, 2 + x.s.cls, none⟩ = false ∧ w'.cell? ⟨p, 2 + x.s.cls, none⟩ = some (V x.s.cls) ∧ ∃ V', Mv p b V F w V' { F with R := upR F.R x.s.cls (A ++ B) } (w'.setCell ⟨p, 2 + x.s.cls, none⟩ (.slice a k cap))) := fun q => by
    refine (delete_any (own_keep (S := fun _ => False) hO ((Fr.refl _ _).drewN q) (fun _ _ e => e)) hm hn).mono ?_
    rintro e w' ⟨v', rfl, hO', hF', hb'⟩
    obtain ⟨a, cap, rfl, -⟩ := own_slice hO'
    refine ⟨a, _, cap, rfl, (hF'.row (hp.drew q) hvg).cell 1 _ rfl, (hF'.row (h.row.drew q) (h.op hc)).frozen _, (hF'.row (h.row.drew q) (h.op hc)).cell _ _ (fcells_get F.q b V hc), upR V x.s.cls (.slice a (A ++ B).length cap), ?_⟩
    exact Mv.ahead (below_drewN (Below.refl _ _) q) ((h.drewN q).put hc hF' hO' (fun g e => .inl (hb' ▸ e)))
  have hgp1 : ¬ x.g = p := hpg
  have hgp2 : ¬ p = x.g := fun e => hpg e.symm
  obtain ⟨a, cap, hv, -⟩ := own_slice hO
  rw [hv] at c0 hI HD
  clear hp hl hO hA hpg hvg hv h hm hn
  generalize (A ++ x.num :: B).length = N at *
  generalize x.s.cls = c at *
  generalize x.num = y at *
  generalize x.g = g at *
  go_enter Try.func23, Try.ntmps23
  go_upto_region 0 with fail
  go_region
  go_upto_region 3 with (go_at_call 31; refine (hI _).mono ?_; rintro e w' ⟨rfl, rfl⟩)
  go_region_held3 (fun w' => w'.cell? ⟨g, 1, none⟩ = some (.int .i64 c)) (go_keep)
    (first | (go_at_call 32; refine (HD.out _).mono ?_; rintro e w1 ⟨a1, k1', cap1, rfl, d1, f1, e1, hM⟩; have HM := hid2 hM; clear hM))
  go_wp2_with fail
  refine bodyPost_end (results_none Try.results23 _ _ _) rfl ?_
  exact ⟨rfl, HM.out⟩
set_option maxHeartbeats 2000000 in
/-- A stream that stands in no row leaves none. -/
theorem leave_miss {w : World} {p b : Nat} {V : Nat → Value} {F : Fs} (h : FaAt w p b V F) {x : Ln} (hp : Row w x.g x.cells 44) (hc : x.s.cls < 8) (hl : (F.R x.s.cls).length ≤ 1125899906842) (hA : x.num ∉ F.R x.s.cls) :
    Calls Try.prog 23 #[pt p 0, pt x.g 0] w fun e w' => e = .returned (.tuple #[]) ∧ ∃ q, w' = w.drewN q := by
  have c0 := h.row.cell _ _ (fcells_get F.q b V hc)
  have x0 := hp.cell 0 _ rfl
  have x1 := hp.cell 1 _ rfl
  have hO := h.own _ hc
  have k1 : (0 : Int) ≤ (x.s.cls : Int) := by omega
  have k2 : (x.s.cls : Int) < 8 := by omega
  have hI : ∀ q, Calls Try.prog 31 #[V x.s.cls, .int .u64 x.num] (w.drewN q) fun e w' => e = .returned (.int .i64 (-1)) ∧ w' = w.drewN q := fun q => index_miss (own_keep (S := fun _ => False) hO ((Fr.refl _ _).drewN q) (fun _ _ e => e)) hA (by omega)
  obtain ⟨a, cap, hv, -⟩ := own_slice hO
  rw [hv] at c0 hI
  clear hp hl hO hA hv h
  generalize (F.R x.s.cls).length = N at *
  generalize x.s.cls = c at *
  generalize x.num = y at *
  generalize x.g = g at *
  go_enter Try.func23, Try.ntmps23
  go_upto_region 0 with fail
  go_region
  go_wp2_with (go_at_call 31; refine (hI _).mono ?_; rintro e w' ⟨rfl, rfl⟩)
  refine bodyPost_end (results_none Try.results23 _ _ _) rfl ?_
  exact ⟨rfl, _, rfl⟩
end Go.Proofs.Ytjeokomocopjhaa
