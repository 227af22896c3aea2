import Derived.Test.YtgkfnbbgohdalaaDoorEnc0
namespace Go.Proofs.YtgkfnbbgohdalaaDoor
open Go.RowKit
set_option maxRecDepth 100000

theorem made0 (n : Nat) : madeCells #[.int .u8 0] n = (bcells (z n)).toArray := by
  apply Array.ext_getElem?
  intro j
  by_cases h : j < n
  · simp [madeCells, bcells, h, Nat.mod_one, bv, z]; rfl
  · simp [madeCells, bcells, h, z]
theorem make_run (w : World) (n : Nat) (hn : n ≤ 1048576) : (Instr.makeSlice 23 (.int .i64 (n : Int)) (.int .i64 (n : Int))).run Tryd.prog w = .ok (.slice (some ⟨w.heap.size, 0, none⟩) n n) (w.alloc (.cells (bcells (z n)).toArray 5)) := by
  obtain ⟨i, h1, h2, h3, h4⟩ := info5
  have hr := run_make (P := Tryd.prog) w 23 5 i (.int .u8 0) Tryd.underlying23 h1 h2 .i64 .i64 (n : Int) (n : Int) (by omega) (by omega) (by rw [h4]; omega) (by omega)
  simp only [Int.toNat_natCast, h3, Nat.mul_one, Value.cells, made0] at hr
  exact hr

set_option maxHeartbeats 2000000 in
theorem enc_kind {w : World} {c : List Value} {f : Fr} {da ra ma : Option Addr} {dc rc mc : Nat} (h : FrAt w c f da dc ra rc ma mc) (hk : ¬known f.kind) :
    Calls Tryd.prog 10 #[.agg c.toArray] w fun e w' => e = .returned (.tuple #[.slice none 0 0, .int .i64 33]) ∧ Below w.heap.size w w' := by
  have hkn : decide (known f.kind) = false := decide_eq_false hk
  obtain ⟨rfl, _⟩ := h
  have HK := known_any f.kind
  rw [hkn] at HK
  have HKN : Hid _ := HK
  clear HK
  go_enter Tryd.func10, Tryd.ntmps10
  go_upto_region 1 with (fail)
  refine wp_world fun W0 HW => ?_
  have HQ0 : Hid (Row W0 w.heap.size (fcells f (.slice da f.data.length dc) (.slice ra f.ranges.length rc) (.slice ma f.mac.length mc)) 27) := by show Row _ _ _ _; rw [HW.out]; exact Row.new' _ _ _ _ _ rfl rfl
  have HB0 : Hid (Below w.heap.size w W0) := by show Below _ _ _; rw [HW.out]; exact (Below.refl _ _).alloc (Nat.le_refl _) _
  have c0 := HQ0.out.cell 0 _ rfl
  clear HW
  go_wp2_with (go_at_call 18; refine (HKN.out _).mono ?_; rintro e w' ⟨rfl, rfl⟩)
  go_ret2
  exact ⟨rfl, HB0.out⟩

open Classical in
set_option maxHeartbeats 2000000 in
theorem enc_field {w : World} {c : List Value} {f : Fr} {da ra ma : Option Addr} {dc rc mc : Nat} (h : FrAt w c f da dc ra rc ma mc) (hk : known f.kind) (hf : ¬fit f) :
    Calls Tryd.prog 10 #[.agg c.toArray] w fun e w' => e = .returned (.tuple #[.slice none 0 0, .int .i64 35]) ∧ Below w.heap.size w w' := by
  have hkn : decide (known f.kind) = true := decide_eq_true hk
  have HF : Hid (FrAt w c f da dc ra rc ma mc) := h
  obtain ⟨rfl, _⟩ := h
  have HFT : Hid (∀ W, Below w.heap.size w W → Calls Tryd.prog 14 #[.agg (fcells f (.slice da f.data.length dc) (.slice ra f.ranges.length rc) (.slice ma f.mac.length mc)).toArray] W fun e w' => e = .returned (.bool false) ∧ Below W.heap.size W w') := fun W hb => by
    have := fit_any (HF.out.kept hb)
    rw [decide_eq_false hf] at this
    exact this
  have HK := known_any f.kind
  rw [hkn] at HK
  have HKN : Hid _ := HK
  clear HK
  go_enter Tryd.func10, Tryd.ntmps10
  go_upto_region 1 with (fail)
  refine wp_world fun W0 HW => ?_
  have HQ0 : Hid (Row W0 w.heap.size (fcells f (.slice da f.data.length dc) (.slice ra f.ranges.length rc) (.slice ma f.mac.length mc)) 27) := by show Row _ _ _ _; rw [HW.out]; exact Row.new' _ _ _ _ _ rfl rfl
  have HB0 : Hid (Below w.heap.size w W0) := by show Below _ _ _; rw [HW.out]; exact (Below.refl _ _).alloc (Nat.le_refl _) _
  have c0 := HQ0.out.cell 0 _ rfl
  clear HW
  go_wp2_with (first
    | (go_at_call 18; refine (HKN.out _).mono ?_; rintro e w' ⟨rfl, rfl⟩)
    | (show wpList _ _ _ (Oper.mk (some 10) (.load 27 (.tmp 1)) _ _ _ _ :: _) _ _; refine HQ0.out.wpLoad 27 (.tmp 1) rfl rfl rfl _ Tryd.underlying27 rfl i27 ?_)
    | (go_at_call 14; refine (HFT.out _ HB0.out).mono ?_; rintro e w1 ⟨rfl, hb⟩; have HB1 : Hid _ := hb; clear hb))
  go_ret2
  exact ⟨rfl, HB0.out.trans (HB1.out.mono HB0.out.size)⟩

/-- What Encode gives of a fit frame. -/
def EncGives (w : World) (f : Fr) (e : Ending) (w' : World) : Prop :=
  ∃ g, e = .returned (.tuple #[.slice (some ⟨g, 0, none⟩) (enc f).length (enc f).length, .int .i64 0]) ∧ w.heap.size ≤ g ∧ Row w' g (bcells (enc f)) 5 ∧ Below w.heap.size w w'

theorem z_two (n : Nat) (h : 2 ≤ n) (a b : BitVec 8) : ((z n).set 0 a).set 1 b = [a, b] ++ z (n - 2) := by
  obtain ⟨m, rfl⟩ : ∃ m, n = m + 2 := ⟨n - 2, by omega⟩
  rfl
theorem sizes_pos : ∀ k : Fin 12, sizesL[k.val]'k.isLt = ((sizeK (k.val : Int) : Nat) : Int) := by decide
open Classical in
set_option maxHeartbeats 4000000 in
theorem enc_ok {w : World} {c : List Value} {f : Fr} {da ra ma : Option Addr} {dc rc mc : Nat} (h : FrAt w c f da dc ra rc ma mc) (hf : fit f) (hT : CrcTab w) (hS : SizesTab w) (h2 : 2 ≤ w.heap.size) :
    Calls Tryd.prog 10 #[.agg c.toArray] w (EncGives w f) := by
  have hk := hf.1
  have hkn : decide (known f.kind) = true := decide_eq_true hk
  have hb := hf.2.2.2.1
  have HF : Hid (FrAt w c f da dc ra rc ma mc) := h
  obtain ⟨rfl, _⟩ := h
  have HFT : Hid (∀ W, Below w.heap.size w W → Calls Tryd.prog 14 #[.agg (fcells f (.slice da f.data.length dc) (.slice ra f.ranges.length rc) (.slice ma f.mac.length mc)).toArray] W fun e w' => e = .returned (.bool true) ∧ Below W.heap.size W w') := fun W hb => by
    have := fit_any (HF.out.kept hb)
    rw [decide_eq_true hf] at this
    exact this
  have HK := known_any f.kind
  rw [hkn] at HK
  have HKN : Hid _ := HK
  have HT : Hid (CrcTab w) := hT
  have HS : Hid (SizesTab w) := hS
  have HFI : Hid (fit f) := hf
  obtain ⟨kn, hkk⟩ : ∃ kn : Nat, f.kind = (kn : Int) := ⟨f.kind.toNat, by unfold known at hk; omega⟩
  have hk12 : (kn : Int) < 12 := by unfold known at hk; omega
  have hk0 : (0 : Int) < (kn : Int) := by unfold known at hk; omega
  obtain ⟨sz, hsz⟩ : ∃ sz : Nat, sz = sizeK f.kind := ⟨_, rfl⟩
  have HSC : Hid (w.cell? ⟨0, kn, none⟩ = some (.int .i64 (sz : Int))) := by
    have hlt : kn < sizesL.length := by show kn < 12; omega
    have e1 := hS kn hlt
    show w.cell? _ = _
    rw [e1, hsz, hkk]
    exact congrArg (fun z => some (Value.int .i64 z)) (sizes_pos ⟨kn, hlt⟩)
  have hbig : f.data.length ≤ 1024 ∧ f.ranges.length ≤ 8 ∧ sizeK f.kind ≤ 26 := by
    refine ⟨?_, ?_, ?_⟩
    · by_cases e : f.kind = 1
      · simp [bounded, e] at hb; exact hb.2.1
      · rw [fit_data hf e]; simp
    · by_cases e : f.kind = 4
      · simp [bounded, e] at hb; exact hb.2.1
      · rw [fit_ranges hf e]; simp
    · rcases kinds hk with e | e | e | e | e | e | e | e | e | e | e <;> rw [e] <;> decide
  have hszb : sz ≤ 26 := by rw [hsz]; exact hbig.2.2
  have hfl := fields_len hf
  obtain ⟨n, hn⟩ : ∃ n, n = sizeF f := ⟨_, rfl⟩
  obtain ⟨dl, hdl⟩ : ∃ dl, dl = f.data.length := ⟨_, rfl⟩
  obtain ⟨rl, hrl⟩ : ∃ rl, rl = f.ranges.length := ⟨_, rfl⟩
  obtain ⟨t1, ht1⟩ : ∃ t1, t1 = sz + dl := ⟨_, rfl⟩
  obtain ⟨t2, ht2⟩ : ∃ t2, t2 = 16 * rl := ⟨_, rfl⟩
  have hnn : n = t1 + t2 := by rw [hn, sizeF, ht1, ht2, hsz, hdl, hrl]
  have a1 : (sz : Int) + (dl : Int) = (t1 : Int) := by omega
  have a2 : (16 : Int) * (rl : Int) = (t2 : Int) := by omega
  have a3 : (t1 : Int) + (t2 : Int) = (n : Int) := by omega
  have b1 : (t1 : Int) ≤ 1050 := by omega
  have b2 : (t2 : Int) ≤ 128 := by omega
  have b3 : (n : Int) ≤ 1178 := by omega
  have b4 : (rl : Int) ≤ 8 := by omega
  have b5 : (6 : Int) ≤ (n : Int) := by omega
  have b6 : (dl : Int) ≤ 1024 := by omega
  have b7 : (sz : Int) ≤ 26 := by omega
  have HNS : Hid (n = sizeF f) := hn
  have HFL : Hid (n = (fieldsB f).length + 6) := by show n = _; rw [hn, hfl]
  obtain ⟨m, hm⟩ : ∃ m, m = n - 4 := ⟨_, rfl⟩
  have m1 : (n : Int) - 4 = (m : Int) := by omega
  have m2 : (m : Int) ≤ (n : Int) := by omega
  have m3 : ¬ n = m := by omega
  have m4 : n - m = 4 := by omega
  have HMM : Hid (m = (fieldsB f).length + 2) := by show m = _; omega
  have HDA : Hid (∀ W, Below w.heap.size w W → ∀ g, W.heap.size ≤ g → (f.data ≠ [] → ∀ ad, da = some ad → ad.block ≠ g) ∧ (f.ranges ≠ [] → ∀ ad, ra = some ad → ad.block ≠ g) ∧ (f.mac ≠ [] → ∀ ad, ma = some ad → ad.block ≠ g)) := by
    intro W hbW g hg
    have hsz := hbW.size
    refine ⟨fun hne ad e => ?_, fun hne ad e => ?_, fun hne ad e => ?_⟩
    · obtain ⟨g2, o2, e2, c2⟩ := HF.out.data 0 (List.length_pos_iff.2 hne)
      rw [e] at e2; cases e2
      have := World.block_lt_of_cell? w _ c2
      show g2 ≠ g
      have h3 : g2 < w.heap.size := this
      omega
    · obtain ⟨g2, o2, e2, c2, _⟩ := HF.out.ranges 0 (List.length_pos_iff.2 hne)
      rw [e] at e2; cases e2
      have := World.block_lt_of_cell? w _ c2
      show g2 ≠ g
      have h3 : g2 < w.heap.size := this
      omega
    · obtain ⟨g2, o2, e2, c2⟩ := HF.out.mac 0 (List.length_pos_iff.2 hne)
      rw [e] at e2; cases e2
      have := World.block_lt_of_cell? w _ c2
      show g2 ≠ g
      have h3 : g2 < w.heap.size := this
      omega
  have kw := ub_wrap (kn : Int)
  have kw' : (kn : Int) % 256 = ub (BitVec.ofInt 8 (kn : Int)) := by rw [← IntKind.wrap_u8']; exact kw
  have pw := ub_wrap f.path
  have pw' : f.path % 256 = ub (BitVec.ofInt 8 f.path) := by rw [← IntKind.wrap_u8']; exact pw
  have HKB : Hid (BitVec.ofInt 8 f.kind = BitVec.ofInt 8 (kn : Int)) := by show _ = _; rw [hkk]
  obtain ⟨kb, hkb⟩ : ∃ kb, kb = BitVec.ofInt 8 (kn : Int) := ⟨_, rfl⟩
  obtain ⟨pb, hpb⟩ : ∃ pb, pb = BitVec.ofInt 8 f.path := ⟨_, rfl⟩
  rw [← hkb] at kw kw' HKB
  rw [← hpb] at pw pw'
  have HPB : Hid _ := hpb
  have HKK : Hid _ := hkk
  have HDL : Hid _ := hdl
  have HRL : Hid _ := hrl
  have HTZ : Hid _ := h2
  have HCE : Hid (fcells f (.slice da f.data.length dc) (.slice ra f.ranges.length rc) (.slice ma f.mac.length mc) = fcells f (.slice da dl dc) (.slice ra rl rc) (.slice ma f.mac.length mc)) := by show _ = _; rw [hdl, hrl]
  clear HK hT hS hf hb hsz hn hdl hrl ht1 ht2 hnn hm hbig hfl hkb hpb hk hszb h2 hkk
  rw [HCE.out] at HFT ⊢
  go_enter Tryd.func10, Tryd.ntmps10
  go_upto_region 1 with (fail)
  refine wp_world fun W0 HW => ?_
  have HQ0 : Hid (Row W0 w.heap.size (fcells f (.slice da dl dc) (.slice ra rl rc) (.slice ma f.mac.length mc)) 27) := by show Row _ _ _ _; rw [HW.out]; exact Row.new' _ _ _ _ _ rfl rfl
  have HB0 : Hid (Below w.heap.size w W0) := by show Below _ _ _; rw [HW.out]; exact (Below.refl _ _).alloc (Nat.le_refl _) _
  have c0 := HQ0.out.cell 0 _ rfl
  clear HW
  go_upto_region 5 with (first
    | (go_at_call 18; refine (HKN.out _).mono ?_; rintro e w' ⟨rfl, rfl⟩)
    | (show wpList _ _ _ (Oper.mk (some 10) (.load 27 (.tmp 1)) _ _ _ _ :: _) _ _; refine HQ0.out.wpLoad 27 (.tmp 1) rfl rfl rfl _ Tryd.underlying27 rfl i27 ?_)
    | (go_at_call 14; refine (HFT.out _ HB0.out).mono ?_; rintro e w1 ⟨rfl, hb⟩; have HB1 : Hid _ := hb; clear hb))
  have HQ1 : Hid (Row w1 w.heap.size (fcells f (.slice da dl dc) (.slice ra rl rc) (.slice ma f.mac.length mc)) 27) := HQ0.out.kept HB1.out HQ0.out.lt
  have HBw : Hid (Below w.heap.size w w1) := HB0.out.trans (HB1.out.mono HB0.out.size)
  clear c0 HQ0 HB0 HB1 HFT HKN
  have c0 : w1.cell? ⟨w.heap.size, 0, none⟩ = some (.int .i64 (kn : Int)) := by have := HQ1.out.cell 0 _ rfl; rw [HKK.out] at this; exact this
  have c5 := HQ1.out.cell 5 _ rfl
  have c6 := HQ1.out.cell 6 _ rfl
  have s0 := cell_kept HBw.out HSC.out
  have hmk := make_run w1.drew n (by omega)
  go_region
  clear hmk
  go_upto_region 6 with (fail)
  refine wp_world fun W2 HW => ?_
  have HR2 : Hid (Row W2 w1.heap.size (bcells (z n)) 5) := by show Row _ _ _ _; rw [HW.out]; exact (Row.new _ _ _).drawn _
  have HQ2 : Hid (Row W2 w.heap.size (fcells f (.slice da dl dc) (.slice ra rl rc) (.slice ma f.mac.length mc)) 27) := by show Row _ _ _ _; rw [HW.out]; exact (HQ1.out.alloc _).drawn _
  have HB2 : Hid (Below w.heap.size w W2) := by show Below _ _ _; rw [HW.out]; exact below_drawn (HBw.out.alloc HBw.out.size _) _
  have HGG : Hid (w.heap.size < w1.heap.size) := HQ1.out.lt
  have HBW : Hid _ := HBw.out
  clear HW c0 c5 c6 s0 HQ1 HBw
  generalize hgg : w1.heap.size = g at *
  have HG1 : Hid _ := hgg
  clear hgg
  have c0 : W2.cell? ⟨w.heap.size, 0, none⟩ = some (.int .i64 (kn : Int)) := by have := HQ2.out.cell 0 _ rfl; rw [HKK.out] at this; exact this
  have c1 := HQ2.out.cell 1 _ rfl
  have f0 := HR2.out.frozen 0
  have f1 := HR2.out.frozen 1
  have x0 : ∃ v, W2.cell? ⟨g, 0, none⟩ = some v := ⟨_, HR2.out.cell 0 _ (bcells_get (by rw [z_len]; omega))⟩
  have x1 : ∃ v, W2.cell? ⟨g, 1, none⟩ = some v := ⟨_, HR2.out.cell 1 _ (bcells_get (by rw [z_len]; omega))⟩
  obtain ⟨v0, x0⟩ := x0
  obtain ⟨v1, x1⟩ := x1
  have i0 : (0 : Int) < (n : Int) := by omega
  have i1 : (1 : Int) < (n : Int) := by omega
  go_region
  clear c0 c1 f0 f1 x0 x1
  go_upto_region 7 with (fail)
  refine wp_world fun W3 HW => ?_
  have HR3 : Hid (Row W3 g (bcells ([kb, pb] ++ z (n - 2))) 5) := by
    show Row _ _ _ _
    rw [HW.out]
    have := (HR2.out.set 0 (.int .u8 (ub kb))).set 1 (.int .u8 (ub pb))
    rw [bcells_set, bcells_set, z_two n (by omega)] at this
    exact this.drawn _
  have HQ3 : Hid (Row W3 w.heap.size (fcells f (.slice da dl dc) (.slice ra rl rc) (.slice ma f.mac.length mc)) 27) := by
    show Row _ _ _ _
    rw [HW.out]
    exact ((HQ2.out.setOther _ (show w.heap.size ≠ g by have := HGG.out; omega) _).setOther _ (show w.heap.size ≠ g by have := HGG.out; omega) _).drawn _
  have HB3 : Hid (Below w.heap.size w W3) := by
    show Below _ _ _
    rw [HW.out]
    exact below_drawn ((HB2.out.setCell (show w.heap.size ≤ g by have := HGG.out; omega) _).setCell (show w.heap.size ≤ g by have := HGG.out; omega) _) _
  have HF3 : Hid (FrAt W3 (fcells f (.slice da dl dc) (.slice ra rl rc) (.slice ma f.mac.length mc)) f da dc ra rc ma mc) := by
    show FrAt _ _ _ _ _ _ _ _ _
    rw [← HCE.out]
    exact HF.out.kept HB3.out
  clear HW HR2 HQ2 HB2
  go_upto_region 9 with (first
    | (show wpList _ _ _ (Oper.mk (some 38) (.load 27 (.tmp 1)) _ _ _ _ :: _) _ _; refine HQ3.out.wpLoad 27 (.tmp 1) rfl rfl rfl _ Tryd.underlying27 rfl i27 ?_)
    | (go_at_call 19; refine (lay_any HF3.out HFI.out HNS.out (HDA.out _ HBW.out g (Nat.le_of_eq HG1.out)).1 (HDA.out _ HBW.out g (Nat.le_of_eq HG1.out)).2.1 (HDA.out _ HBW.out g (Nat.le_of_eq HG1.out)).2.2 HR3.out).mono ?_; rintro e W4 ⟨rfl, hr, ho⟩; have HR4 : Hid (Row W4 g (bcells ([kb, pb] ++ (fieldsB f ++ z 4))) 5) := hr; have HO4 : Hid (Only g W3 W4) := ho; clear hr ho))
  have HB4 : Hid (Below w.heap.size w W4) := HB3.out.trans (HO4.out.below HB3.out.size (show w.heap.size ≤ g by have := HGG.out; omega))
  have HBD : Hid (bodyB f = [kb, pb] ++ fieldsB f) := by show _ = _; unfold bodyB; rw [HKB.out, ← HPB.out]; rfl
  obtain ⟨body, hbody⟩ : ∃ body, body = bodyB f := ⟨_, rfl⟩
  have HBL : Hid (body.length = m) := by show _ = _; rw [hbody, HBD.out, HMM.out]; simp
  have HR5 : Hid (Row W4 g (bcells (body ++ z 4)) 5) := by show Row _ _ _ _; rw [hbody, HBD.out, List.append_assoc]; exact HR4.out
  have HBY : Hid (BytesAt W4 (some ⟨g, 0, none⟩) body) := fun k hk => ⟨g, 0, rfl, by rw [Nat.zero_add]; exact HR5.out.cell k _ (by rw [bcells, List.map_append, List.getElem?_append_left (by simpa using hk)]; exact bcells_get hk)⟩
  have HTT : Hid (CrcTab W4) := HT.out.kept HB4.out
  have HEN : Hid (enc f = body ++ be 4 (crc body).toNat) := by show _ = _; rw [hbody]; rfl
  have HGW : Hid (g < W4.heap.size) := HR4.out.lt
  clear HR3 HQ3 HB3 HF3 HO4 HR4 hbody
  have hcu := u_bd (crc body)
  have hw1 : IntKind.u64.wrap (u (crc body)) = u (crc body) := by rw [IntKind.wrap_u64]; omega
  have HCC : Hid (u (crc body) = ((crc body).toNat : Int)) := rfl
  have HC4 : Hid ((crc body).toNat < 18446744073709551616) := by show _ < _; unfold u at hcu; omega
  obtain ⟨cr, hcr⟩ : ∃ cr, cr = (crc body).toNat := ⟨_, rfl⟩
  have hwc : IntKind.u64.wrap (cr : Int) = (cr : Int) := by rw [hcr]; exact hw1
  have HCR : Hid (∀ W p, CrcTab W → BytesAt W (some ⟨g, 0, none⟩) body → W.cell? ⟨p, 0, none⟩ = some (.slice (some ⟨g, 0, none⟩) m n) → Calls Tryd.prog 21 #[.slice (some ⟨p, 0, none⟩) 1 1] W fun e w' => e = .returned (.int .u32 (cr : Int)) ∧ w' = W) := fun W p h1 h2 h3 => by
    have := crc_one h1 h3 HBL.out h2 (by omega)
    rw [hcr]; exact this
  rw [← hcr] at HEN HC4
  have h43 : (cr : Int) < 4294967296 := by rw [hcr]; exact hcu.2
  clear hcu hw1 HCC hcr
  go_region_with (first
    | (go_at_call 21; refine (HCR.out _ _ ?_ ?_ ?_).mono ?_; exact (HTT.out.kept (below_drawn ((Below.refl _ _).alloc (Nat.le_refl _) _) _)); exact (HBY.out.kept (below_drawn ((Below.refl _ _).alloc (Nat.le_refl _) _) _)); exact cell_drawn _ ((Row.new W4 [.slice (some ⟨g, 0, none⟩) m n] 23).cell 0 _ rfl); rintro e w' ⟨rfl, rfl⟩)
    | (go_at_call 20; refine (put_in (w := (W4.alloc (.cells #[.slice (some ⟨g, 0, none⟩) m n] 23)).drew) ((HR5.out.alloc _).drawn _) (L := body ++ z 4) (A := body) (X := z 4) (B := []) (L' := body ++ be 4 cr) (congrArg (body ++ ·) (List.append_nil (z 4)).symm) HBL.out rfl (by decide) cr HC4.out (congrArg (body ++ ·) (List.append_nil (be 4 cr)))).mono ?_; rintro e W6 ⟨rfl, hr, ho⟩; have HR6 : Hid _ := hr; have HO6 : Hid _ := ho; clear hr ho))
  go_wp2
  go_ret2
  have hlen : (enc f).length = n := by rw [HEN.out, List.length_append, be_len, HBL.out]; omega
  refine ⟨g, by rw [hlen]; rfl, by have := HGG.out; omega, by rw [HEN.out]; exact HR6.out, ?_⟩
  exact HB4.out.trans ((below_drawn ((Below.refl _ _).alloc HB4.out.size _) _).trans (HO6.out.below (Nat.le_trans HB4.out.size (by simp)) (by have := HGG.out; omega)))
end Go.Proofs.YtgkfnbbgohdalaaDoor
