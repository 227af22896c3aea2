import Derived.Test.YtgkfnbbgohdalaaDoorFr1
import Derived.Test.YtgkfnbbgohdalaaDoorFr3
import Derived.Deep.CutRange
namespace Go.Proofs.YtgkfnbbgohdalaaDoor
open Go.RowKit
set_option maxRecDepth 100000

theorem wp_world {code : Code} {Q : Exit → Act → World → Prop} {a : Act} {w : World} (h : ∀ w0, Hid (w0 = w) → code.wp Tryd.prog Q a w0) : code.wp Tryd.prog Q a w := h w rfl

/-- The cells are those of a frame. -/
structure FrAt (w : World) (c : List Value) (f : Fr) (da : Option Addr) (dc : Nat) (ra : Option Addr) (rc : Nat) (ma : Option Addr) (mc : Nat) : Prop where
  cells : c = fcells f (.slice da f.data.length dc) (.slice ra f.ranges.length rc) (.slice ma f.mac.length mc)
  data : BytesAt w da f.data
  ranges : RangesAt w ra f.ranges
  mac : BytesAt w ma f.mac
  num : f.num < 18446744073709551616
  off : f.off < 18446744073709551616
  edge : f.edge < 18446744073709551616
  rlt : ∀ r ∈ f.ranges, r.1 < 18446744073709551616 ∧ r.2 < 18446744073709551616
  token : f.token < 4294967296
  nonce : f.nonce < 4294967296
  dlen : f.data.length ≤ 281474976710656
  rlen : f.ranges.length ≤ 281474976710656
  mlen : f.mac.length ≤ 281474976710656
theorem FrAt.kept {w w' : World} {c : List Value} {f : Fr} {da ra ma : Option Addr} {dc rc mc : Nat} (h : FrAt w c f da dc ra rc ma mc) (hb : Below w.heap.size w w') : FrAt w' c f da dc ra rc ma mc :=
  { h with data := h.data.kept hb, ranges := h.ranges.kept hb, mac := h.mac.kept hb }

theorem Row.fr {w : World} {g : Nat} {f : Fr} {sd sr sm : Value} {t : TypeId} (R : Row w g (fcells f sd sr sm) t) :
    w.cell? ⟨g, 0, none⟩ = some (.int .i64 f.kind) ∧ w.cell? ⟨g, 1, none⟩ = some (.int .i64 f.path) ∧ w.cell? ⟨g, 2, none⟩ = some (.int .u64 (f.num : Int)) ∧ w.cell? ⟨g, 3, none⟩ = some (.int .u64 (f.off : Int)) ∧ w.cell? ⟨g, 4, none⟩ = some (.int .u64 (f.edge : Int)) ∧ w.cell? ⟨g, 5, none⟩ = some sd ∧ w.cell? ⟨g, 6, none⟩ = some sr ∧ w.cell? ⟨g, 7, none⟩ = some (.int .u32 (f.token : Int)) ∧ w.cell? ⟨g, 8, none⟩ = some (.int .u32 (f.nonce : Int)) ∧ w.cell? ⟨g, 9, none⟩ = some sm ∧ w.cell? ⟨g, 10, none⟩ = some (.bool f.backup) ∧ w.cell? ⟨g, 11, none⟩ = some (.int .i64 f.which) :=
  ⟨R.cell 0 _ rfl, R.cell 1 _ rfl, R.cell 2 _ rfl, R.cell 3 _ rfl, R.cell 4 _ rfl, R.cell 5 _ rfl, R.cell 6 _ rfl, R.cell 7 _ rfl, R.cell 8 _ rfl, R.cell 9 _ rfl, R.cell 10 _ rfl, R.cell 11 _ rfl⟩
theorem blank_iff (f : Fr) : (f.num = 0 ∧ f.off = 0 ∧ f.edge = 0 ∧ f.token = 0 ∧ f.nonce = 0 ∧ f.which = 0 ∧ f.backup = false ∧ f.data.length = 0 ∧ f.ranges.length = 0 ∧ f.mac.length = 0) ↔ blank f := by
  unfold blank; simp only [List.length_eq_zero_iff]

open Classical in
set_option maxHeartbeats 4000000 in
theorem fit_any {w : World} {c : List Value} {f : Fr} {da ra ma : Option Addr} {dc rc mc : Nat} (h : FrAt w c f da dc ra rc ma mc) :
    Calls Tryd.prog 14 #[.agg c.toArray] w fun e w' => e = .returned (.bool (decide (fit f))) ∧ Below w.heap.size w w' := by
  obtain ⟨rfl, _, hR, _, _, _, _, _, _, _, hd, hr, _⟩ := h
  have HK : Hid (∀ w, Calls Tryd.prog 18 #[.int .i64 f.kind] w fun e w' => e = .returned (.bool (decide (known f.kind))) ∧ w' = w) := fun w => known_any f.kind w
  have HBo : Hid (known f.kind → ∀ w', Below w.heap.size w w' → Calls Tryd.prog 26 #[.agg (fcells f (.slice da f.data.length dc) (.slice ra f.ranges.length rc) (.slice ma f.mac.length mc)).toArray] w' fun e w'' => e = .returned (.bool (decide (bounded f))) ∧ Below w'.heap.size w' w'') :=
    fun hk w' hb => bounded_any hk hd hr (hR.kept hb)
  have HS : Hid (known f.kind → ∀ w', Calls Tryd.prog 28 #[.agg (fcells f (.slice da f.data.length dc) (.slice ra f.ranges.length rc) (.slice ma f.mac.length mc)).toArray] w' fun e w'' => (∃ da' dc' ra' rc' ma' mc', e = .returned (.agg (fcells (strip f) (.slice da' (strip f).data.length dc') (.slice ra' (strip f).ranges.length rc') (.slice ma' (strip f).mac.length mc')).toArray)) ∧ Below w'.heap.size w' w'') :=
    fun hk w' => stripped_any hk
  have HBl : Hid (∀ (w' : World) (da' : Option Addr) (dc' : Nat) (ra' : Option Addr) (rc' : Nat) (ma' : Option Addr) (mc' : Nat), Calls Tryd.prog 27 #[.agg (fcells (strip f) (.slice da' (strip f).data.length dc') (.slice ra' (strip f).ranges.length rc') (.slice ma' (strip f).mac.length mc')).toArray] w' fun e w'' => e = .returned (.bool (decide (blank (strip f)))) ∧ Below w'.heap.size w' w'') := by
    intro w' da' dc' ra' rc' ma' mc'
    have := blank_any (w := w') (f := strip f) (da := da') (ra := ra') (ma := ma') (dc := dc') (rc := rc') (mc := mc')
    refine this.mono ?_
    rintro e w'' ⟨rfl, hb⟩
    refine ⟨?_, hb⟩
    congr 2
    exact decide_eq_decide.2 (blank_iff _)
  have HF : Hid (fit f ↔ known f.kind ∧ 0 ≤ f.path ∧ f.path < 8 ∧ bounded f ∧ blank (strip f)) := Iff.rfl
  clear hR hd hr
  by_cases hk : known f.kind
  · replace HBo : Hid _ := HBo.out hk
    replace HS : Hid _ := HS.out hk
    have hk1 : decide (known f.kind) = true := decide_eq_true hk
    rw [hk1] at HK
    by_cases hp : 0 ≤ f.path ∧ f.path < 8
    · obtain ⟨p0, p8⟩ := hp
      by_cases hb : bounded f
      · have hb1 : decide (bounded f) = true := decide_eq_true hb
        rw [hb1] at HBo
        have hfit : decide (fit f) = decide (blank (strip f)) := decide_eq_decide.2 (by rw [HF.out]; exact ⟨fun h => h.2.2.2.2, fun h => ⟨hk, p0, p8, hb, h⟩⟩)
        rw [hfit]
        go_enter Tryd.func14, Tryd.ntmps14
        go_upto_region 1 with (fail)
        refine wp_world fun wa HW => ?_
        have HRa : Hid (Row wa w.heap.size (fcells f (.slice da f.data.length dc) (.slice ra f.ranges.length rc) (.slice ma f.mac.length mc)) 27) := by show Row _ _ _ _; rw [HW.out]; exact Row.new' _ _ _ _ _ rfl rfl
        have HBa : Hid (Below w.heap.size w wa) := by show Below _ _ _; rw [HW.out]; exact (Below.refl _ _).alloc (Nat.le_refl _) _
        have HLa : Hid (w.heap.size < wa.heap.size) := HRa.out.lt
        clear HW
        obtain ⟨c0, c1, c2, c3, c4, c5, c6, c7, c8, c9, c10, c11⟩ := HRa.out.fr
        go_wp2_with (first
          | (go_at_call 18; refine (HK.out _).mono ?_; rintro e w0 ⟨rfl, rfl⟩)
          | (go_at_call 26; refine (HBo.out _ HBa.out).mono ?_; rintro e w1 ⟨rfl, hb1⟩; have HB1 : Hid _ := hb1; clear hb1 c0 c1 c2 c3 c4 c5 c6 c7 c8 c9 c10 c11; obtain ⟨c0, c1, c2, c3, c4, c5, c6, c7, c8, c9, c10, c11⟩ := (HRa.out.kept HB1.out HLa.out).fr)
          | (go_at_call 28; refine (HS.out _).mono ?_; rintro e w2 ⟨⟨da', dc', ra', rc', ma', mc', rfl⟩, hb2⟩; have HB2 : Hid _ := hb2; clear hb2 c0 c1 c2 c3 c4 c5 c6 c7 c8 c9 c10 c11)
          | (go_at_call 27; refine (HBl.out _ da' dc' ra' rc' ma' mc').mono ?_; rintro e w3 ⟨rfl, hb3⟩; have HB3 : Hid _ := hb3; clear hb3))
        go_ret
        exact ⟨rfl, HBa.out.trans ((HB1.out.trans ((HB2.out.trans (HB3.out.mono HB2.out.size)).mono HB1.out.size)).mono HBa.out.size)⟩
      · have hb1 : decide (bounded f) = false := decide_eq_false hb
        rw [hb1] at HBo
        have hfit : decide (fit f) = false := decide_eq_false fun h => hb (HF.out.1 h).2.2.2.1
        rw [hfit]
        go_enter Tryd.func14, Tryd.ntmps14
        go_upto_region 1 with (fail)
        refine wp_world fun wa HW => ?_
        have HRa : Hid (Row wa w.heap.size (fcells f (.slice da f.data.length dc) (.slice ra f.ranges.length rc) (.slice ma f.mac.length mc)) 27) := by show Row _ _ _ _; rw [HW.out]; exact Row.new' _ _ _ _ _ rfl rfl
        have HBa : Hid (Below w.heap.size w wa) := by show Below _ _ _; rw [HW.out]; exact (Below.refl _ _).alloc (Nat.le_refl _) _
        have HLa : Hid (w.heap.size < wa.heap.size) := HRa.out.lt
        clear HW
        obtain ⟨c0, c1, c2, c3, c4, c5, c6, c7, c8, c9, c10, c11⟩ := HRa.out.fr
        go_wp2_with (first
          | (go_at_call 18; refine (HK.out _).mono ?_; rintro e w0 ⟨rfl, rfl⟩)
          | (go_at_call 26; refine (HBo.out _ HBa.out).mono ?_; rintro e w1 ⟨rfl, hb1⟩; have HB1 : Hid _ := hb1; clear hb1 c0 c1 c2 c3 c4 c5 c6 c7 c8 c9 c10 c11))
        go_ret
        exact ⟨rfl, HBa.out.trans (HB1.out.mono HBa.out.size)⟩
    · have hfit : decide (fit f) = false := decide_eq_false fun h => hp ⟨(HF.out.1 h).2.1, (HF.out.1 h).2.2.1⟩
      rw [hfit]
      by_cases p0 : 0 ≤ f.path
      · have p8 : decide (f.path < 8) = false := decide_eq_false fun h => hp ⟨p0, h⟩
        go_enter Tryd.func14, Tryd.ntmps14
        go_upto_region 1 with (fail)
        refine wp_world fun wa HW => ?_
        have HRa : Hid (Row wa w.heap.size (fcells f (.slice da f.data.length dc) (.slice ra f.ranges.length rc) (.slice ma f.mac.length mc)) 27) := by show Row _ _ _ _; rw [HW.out]; exact Row.new' _ _ _ _ _ rfl rfl
        have HBa : Hid (Below w.heap.size w wa) := by show Below _ _ _; rw [HW.out]; exact (Below.refl _ _).alloc (Nat.le_refl _) _
        have HLa : Hid (w.heap.size < wa.heap.size) := HRa.out.lt
        clear HW
        obtain ⟨c0, c1, c2, c3, c4, c5, c6, c7, c8, c9, c10, c11⟩ := HRa.out.fr
        go_wp2_with (go_at_call 18; refine (HK.out _).mono ?_; rintro e w0 ⟨rfl, rfl⟩)
        go_ret
        exact ⟨rfl, HBa.out⟩
      · have p8 : decide (0 ≤ f.path) = false := decide_eq_false p0
        go_enter Tryd.func14, Tryd.ntmps14
        go_upto_region 1 with (fail)
        refine wp_world fun wa HW => ?_
        have HRa : Hid (Row wa w.heap.size (fcells f (.slice da f.data.length dc) (.slice ra f.ranges.length rc) (.slice ma f.mac.length mc)) 27) := by show Row _ _ _ _; rw [HW.out]; exact Row.new' _ _ _ _ _ rfl rfl
        have HBa : Hid (Below w.heap.size w wa) := by show Below _ _ _; rw [HW.out]; exact (Below.refl _ _).alloc (Nat.le_refl _) _
        have HLa : Hid (w.heap.size < wa.heap.size) := HRa.out.lt
        clear HW
        obtain ⟨c0, c1, c2, c3, c4, c5, c6, c7, c8, c9, c10, c11⟩ := HRa.out.fr
        go_wp2_with (go_at_call 18; refine (HK.out _).mono ?_; rintro e w0 ⟨rfl, rfl⟩)
        go_ret
        exact ⟨rfl, HBa.out⟩
  · have hk1 : decide (known f.kind) = false := decide_eq_false hk
    rw [hk1] at HK
    have hfit : decide (fit f) = false := decide_eq_false fun h => hk (HF.out.1 h).1
    rw [hfit]
    go_enter Tryd.func14, Tryd.ntmps14
    go_upto_region 1 with (fail)
    refine wp_world fun wa HW => ?_
    have HRa : Hid (Row wa w.heap.size (fcells f (.slice da f.data.length dc) (.slice ra f.ranges.length rc) (.slice ma f.mac.length mc)) 27) := by show Row _ _ _ _; rw [HW.out]; exact Row.new' _ _ _ _ _ rfl rfl
    have HBa : Hid (Below w.heap.size w wa) := by show Below _ _ _; rw [HW.out]; exact (Below.refl _ _).alloc (Nat.le_refl _) _
    have HLa : Hid (w.heap.size < wa.heap.size) := HRa.out.lt
    clear HW
    obtain ⟨c0, c1, c2, c3, c4, c5, c6, c7, c8, c9, c10, c11⟩ := HRa.out.fr
    go_wp2_with (go_at_call 18; refine (HK.out _).mono ?_; rintro e w0 ⟨rfl, rfl⟩)
    go_ret
    exact ⟨rfl, HBa.out⟩
end Go.Proofs.YtgkfnbbgohdalaaDoor
