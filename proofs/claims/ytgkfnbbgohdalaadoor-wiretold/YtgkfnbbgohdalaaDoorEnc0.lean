import Derived.Test.YtgkfnbbgohdalaaDoorLay1
import Derived.Test.YtgkfnbbgohdalaaDoorLay2
import Derived.Test.YtgkfnbbgohdalaaDoorLay3
import Derived.Test.YtgkfnbbgohdalaaDoorLay4
import Derived.Test.YtgkfnbbgohdalaaDoorLay5
namespace Go.Proofs.YtgkfnbbgohdalaaDoor
open Go.RowKit
set_option maxRecDepth 100000

/-- The bytes of a kind's frames beside the data and the ranges. -/
def sizeK (k : Int) : Nat := (sizesL.getD k.toNat 0).toNat
def sizeF (f : Fr) : Nat := sizeK f.kind + f.data.length + 16 * f.ranges.length
theorem fit_data {f : Fr} (h : fit f) (hk : f.kind ≠ 1) : f.data = [] := by
  obtain ⟨hkn, _, _, _, hs⟩ := h
  rcases kinds hkn with e | e | e | e | e | e | e | e | e | e | e <;> simp [strip, blank, e] at hs hk ⊢ <;> simp_all
theorem fit_ranges {f : Fr} (h : fit f) (hk : f.kind ≠ 4) : f.ranges = [] := by
  obtain ⟨hkn, _, _, _, hs⟩ := h
  rcases kinds hkn with e | e | e | e | e | e | e | e | e | e | e <;> simp [strip, blank, e] at hs hk ⊢ <;> simp_all
theorem fields_len {f : Fr} (h : fit f) : (fieldsB f).length + 6 = sizeF f := by
  have hb := h.2.2.2.1
  rcases kinds h.1 with e | e | e | e | e | e | e | e | e | e | e
  · have := fit_ranges h (by rw [e]; decide)
    simp [fieldsB, sizeF, sizeK, sizesL, e, be_len, this]; omega
  all_goals
    have h1 := fit_data h (by rw [e]; decide)
    try have h2 := fit_ranges h (by rw [e]; decide)
    simp [fieldsB, sizeF, sizeK, sizesL, be_len, bounded, rangesB_len, *] at hb ⊢
    try omega
theorem lay_any {w : World} {g n : Nat} {c : List Value} {f : Fr} {da ra ma : Option Addr} {dc rc mc : Nat} {kb pb : BitVec 8} (hF : FrAt w c f da dc ra rc ma mc) (hf : fit f) (hn : n = sizeF f)
    (hda : f.data ≠ [] → ∀ ad, da = some ad → ad.block ≠ g) (hra : f.ranges ≠ [] → ∀ ad, ra = some ad → ad.block ≠ g) (hma : f.mac ≠ [] → ∀ ad, ma = some ad → ad.block ≠ g) (hR : Row w g (bcells ([kb, pb] ++ z (n - 2))) 5) :
    Calls Tryd.prog 19 #[.slice (some ⟨g, 0, none⟩) n n, .agg c.toArray] w fun e w' => e = .returned (.tuple #[]) ∧ Row w' g (bcells ([kb, pb] ++ (fieldsB f ++ z 4))) 5 ∧ Only g w w' := by
  have hb := hf.2.2.2.1
  have hdt := fun h => fit_data hf h
  have hrg := fun h => fit_ranges hf h
  rcases kinds hf.1 with e | e | e | e | e | e | e | e | e | e | e
  · have h1 : 1 ≤ f.data.length ∧ f.data.length ≤ 1024 := by simp [bounded, e] at hb; exact ⟨hb.1, hb.2.1⟩
    have h2 : f.data ≠ [] := fun h => by rw [h] at h1; simp at h1
    have hr := hrg (by rw [e]; decide)
    have hn2 : n = 24 + f.data.length := by rw [hn]; simp [sizeF, sizeK, sizesL, e, hr]
    refine lay_1 hF e h1.1 h1.2 (hda h2) hn2 ?_
    rw [show n - 2 = 8 + (8 + (2 + (f.data.length + 4))) by omega, z_add, z_add, z_add, z_add] at hR
    exact hR
  all_goals have hd := hdt (by rw [e]; decide)
  · have hr := hrg (by rw [e]; decide)
    have hn2 : n = 22 := by rw [hn]; simp [sizeF, sizeK, sizesL, e, hr, hd]
    subst hn2; exact lay_2 hF e rfl hR
  · have hr := hrg (by rw [e]; decide)
    have hn2 : n = 14 := by rw [hn]; simp [sizeF, sizeK, sizesL, e, hr, hd]
    subst hn2; exact lay_3 hF e rfl hR
  · have h1 : 1 ≤ f.ranges.length ∧ f.ranges.length ≤ 8 := by simp [bounded, e] at hb; exact ⟨hb.1, hb.2.1⟩
    have h2 : f.ranges ≠ [] := fun h => by rw [h] at h1; simp at h1
    have hn2 : n = 7 + 16 * f.ranges.length := by rw [hn]; simp [sizeF, sizeK, sizesL, e, hd]
    refine lay_4 hF e h1.2 (hra h2) hn2 ?_
    rw [show n - 2 = 1 + (16 * f.ranges.length + 4) by omega, z_add, z_add] at hR
    exact hR
  · have hr := hrg (by rw [e]; decide)
    have hn2 : n = 22 := by rw [hn]; simp [sizeF, sizeK, sizesL, e, hr, hd]
    subst hn2; exact lay_5 hF e rfl hR
  · have hr := hrg (by rw [e]; decide)
    have hn2 : n = 10 := by rw [hn]; simp [sizeF, sizeK, sizesL, e, hr, hd]
    subst hn2; exact lay_6 hF e rfl hR
  · have hr := hrg (by rw [e]; decide)
    have hn2 : n = 15 := by rw [hn]; simp [sizeF, sizeK, sizesL, e, hr, hd]
    subst hn2; exact lay_7 hF e rfl hR
  · have hr := hrg (by rw [e]; decide)
    have hn2 : n = 18 := by rw [hn]; simp [sizeF, sizeK, sizesL, e, hr, hd]
    have hm8 : f.mac.length = 8 := by simpa [bounded, e] using hb
    subst hn2; exact lay_8 hF e hm8 (hma (fun h => by rw [h] at hm8; simp at hm8)) rfl hR
  · have hr := hrg (by rw [e]; decide)
    have hn2 : n = 26 := by rw [hn]; simp [sizeF, sizeK, sizesL, e, hr, hd]
    have hm8 : f.mac.length = 20 := by simpa [bounded, e] using hb
    subst hn2; exact lay_9 hF e hm8 (hma (fun h => by rw [h] at hm8; simp at hm8)) rfl hR
  · have hr := hrg (by rw [e]; decide)
    have hn2 : n = 7 := by rw [hn]; simp [sizeF, sizeK, sizesL, e, hr, hd]
    subst hn2; exact lay_10 hF e rfl hR
  · have hr := hrg (by rw [e]; decide)
    have hn2 : n = 7 := by rw [hn]; simp [sizeF, sizeK, sizesL, e, hr, hd]
    subst hn2; exact lay_11 hF e rfl hR
end Go.Proofs.YtgkfnbbgohdalaaDoor
