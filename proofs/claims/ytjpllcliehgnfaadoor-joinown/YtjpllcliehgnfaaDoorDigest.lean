import Derived.Test.YtjpllcliehgnfaaDoorEight
namespace Go.Proofs.YtjpllcliehgnfaaDoor
open Go.RowKit
set_option maxRecDepth 100000

/-- A text, padded. -/
def padded (c : List (BitVec 8)) : List (BitVec 8) := c ++ padL (c.length % 18446744073709551616) ++ eightL (c.length % 18446744073709551616 * 8 % 18446744073709551616)
/-- A word's four bytes, the highest first. -/
def wordBytes (x : BitVec 32) : List (BitVec 8) := [(x >>> 24).setWidth 8, (x >>> 16).setWidth 8, (x >>> 8).setWidth 8, x.setWidth 8]
def outN (l : List (BitVec 32)) (k : Nat) : List (BitVec 8) := ((l.take k).map wordBytes).flatten ++ List.replicate (32 - 4 * k) 0#8
/-- The long sum of a text. -/
def sha (c : List (BitVec 8)) : List (BitVec 8) := ((stAt (padded c) ((padded c).length / 64)).l.map wordBytes).flatten
theorem St.len (s : St) : s.l.length = 8 := rfl
theorem wordsFlat_len (l : List (BitVec 32)) : ((l.map wordBytes).flatten).length = 4 * l.length := by
  induction l with
  | nil => rfl
  | cons a l ih => simp only [List.map_cons, List.flatten_cons, List.length_append, List.length_cons, ih]; simp [wordBytes]; omega
theorem outN_len (l : List (BitVec 32)) (k : Nat) (h : l.length = 8) (hk : k ≤ 8) : (outN l k).length = 32 := by
  unfold outN
  rw [List.length_append, wordsFlat_len, List.length_take, List.length_replicate]; omega
theorem set_four {α : Type} (A : List α) (z0 z1 z2 z3 x0 x1 x2 x3 : α) (B : List α) (n : Nat) (h : A.length = n) :
    (((((A ++ z0 :: z1 :: z2 :: z3 :: B).set n x0).set (n + 1) x1).set (n + 2) x2).set (n + 3) x3) = A ++ [x0, x1, x2, x3] ++ B := by
  subst h
  rw [List.set_append_right _ _ (by omega), List.set_append_right _ _ (by omega), List.set_append_right _ _ (by omega), List.set_append_right _ _ (by omega)]
  simp
theorem outN_step (l : List (BitVec 32)) (k : Nat) (h : l.length = 8) (hk : k < 8) :
    ((((outN l k).set (4 * k) (((l.getD k 0) >>> 24).setWidth 8)).set (4 * k + 1) (((l.getD k 0) >>> 16).setWidth 8)).set (4 * k + 2) (((l.getD k 0) >>> 8).setWidth 8)).set (4 * k + 3) ((l.getD k 0).setWidth 8) = outN l (k + 1) := by
  have hl : (((l.take k).map wordBytes).flatten).length = 4 * k := by rw [wordsFlat_len, List.length_take]; omega
  obtain ⟨m, hm⟩ : ∃ m, 32 - 4 * k = m + 4 := ⟨28 - 4 * k, by omega⟩
  have e1 : outN l k = ((l.take k).map wordBytes).flatten ++ 0#8 :: 0#8 :: 0#8 :: 0#8 :: List.replicate m 0#8 := by
    unfold outN; rw [hm]; rfl
  rw [e1, set_four _ _ _ _ _ _ _ _ _ _ _ hl]
  unfold outN
  rw [List.take_succ_eq_append_getElem (by omega), List.map_append, List.flatten_append, show 32 - 4 * (k + 1) = m by omega]
  have : l.getD k 0 = l[k] := by simp [List.getElem?_eq_getElem (show k < l.length by omega)]
  rw [this]
  simp [wordBytes]
theorem outN_full (l : List (BitVec 32)) (h : l.length = 8) : outN l 8 = (l.map wordBytes).flatten := by
  unfold outN; rw [List.take_of_length_le (by omega)]; simp

theorem HashAt.kept {w w' : World} {p : Nat} {c : List (BitVec 8)} (h : HashAt w p c) (hb : Below w.heap.size w w') : HashAt w' p c := by
  obtain ⟨s, l, t, R⟩ := h
  exact ⟨s, l, t, R.kept hb R.lt⟩
theorem take_len {w : World} {p : Nat} {c : List (BitVec 8)} (hH : HashAt w p c) (hp : 1 ≤ p) (hK : KTab w) {a : Option Addr} {cap n : Nat} {bs : List (BitVec 8)} (hn : bs.length = n) (hB : BytesOff p w a bs) (hlen : n ≤ cap) (hcap : cap ≤ 281474976710656) :
    Calls Tryd.prog 57 #[.pointer (some ⟨p, 0, none⟩), .slice a n cap] w fun e w' => e = .returned (.tuple #[]) ∧ HashAt w' p (c ++ bs) ∧ Only p w w' := by
  subst hn; exact take_any hH hp hK hB hlen (Nat.le_trans hcap (by decide))
theorem Row.bytesOff {w : World} {g t : Nat} {bs : List (BitVec 8)} (R : Row w g (bcells bs) t) {p : Nat} (hp : g ≠ p) : BytesOff p w (some ⟨g, 0, none⟩) bs := fun k hk => ⟨g, 0, rfl, hp, by rw [Nat.zero_add]; exact R.cell k _ (bcells_get hk)⟩
theorem BytesAt.offNe {w : World} {g o : Nat} {bs : List (BitVec 8)} (h : BytesAt w (some ⟨g, o, none⟩) bs) {p : Nat} (hp : g ≠ p) : BytesOff p w (some ⟨g, o, none⟩) bs := fun k hk => by
  obtain ⟨g2, o2, e, c⟩ := h k hk
  cases e
  exact ⟨g, o, rfl, hp, c⟩

set_option maxHeartbeats 1500000 in
theorem digest_any {w : World} {p : Nat} {c : List (BitVec 8)} (hH : HashAt w p c) (hp : 1 ≤ p) (hK : KTab w) :
    Calls Tryd.prog 58 #[.pointer (some ⟨p, 0, none⟩)] w fun e w' => e = .returned (.agg (bcells (sha c)).toArray) ∧ Below w.heap.size w w' := by
  obtain ⟨s, left, hT, hR⟩ := hH
  have h2 : Hid (1 ≤ w.heap.size) := by show 1 ≤ w.heap.size; have := hR.lt; omega
  have hz39 := z39
  have HK : Hid (KTab w) := hK
  have HT : Hid _ := hT
  have HR : Hid _ := hR
  have I39 : Hid _ := i39
  have I44 : Hid _ := i44
  have hs := hR.cell 73 _ (hcells_size s left _ hT.len)
  clear hK hT hR
  go_enter Tryd.func58, Tryd.ntmps58
  go_upto_region 1 with (fail)
  refine wp_world fun wa HW => ?_
  have HRr : Hid (Row wa w.heap.size (bcells z32) 73) := by show Row _ _ _ _; rw [HW.out]; exact Row.new' _ _ _ _ _ rfl rfl
  have HBa : Hid (Below w.heap.size w wa) := by show Below _ _ _; rw [HW.out]; exact (Below.refl _ _).alloc (Nat.le_refl _) _
  have HRa : Hid (Row wa p (hcells s left (c.length % 18446744073709551616)) 94) := by show Row _ _ _ _; rw [HW.out]; exact HR.out.alloc _
  have hs2 := cell_kept HBa.out hs
  have HNe : Hid (p < w.heap.size) := HR.out.lt
  have HSa : Hid (wa.heap.size = w.heap.size + 1) := by show wa.heap.size = _; rw [HW.out]; simp
  clear HW hs
  have LH : Hid ((hcells s left (c.length % 18446744073709551616)).length = 74) := hcells_len _ _ _ HT.out.len
  have HMN : Hid (c.length % 18446744073709551616 < 18446744073709551616) := Nat.mod_lt _ (by decide)
  generalize hN : c.length % 18446744073709551616 = N at *
  have HN : Hid _ := hN
  clear hN
  go_upto_region 2 with (first
    | (show wpList _ _ _ (Oper.mk (some 10) (.load 94 (.tmp 9)) _ _ _ _ :: _) _ _; refine HRa.out.wpLoad 94 (.tmp 9) rfl rfl rfl _ Tryd.underlying94 rfl (by rw [LH.out]; exact I39.out) ?_)
    | (show wpList _ _ _ (Oper.mk none (.store 94 (.tmp 3) (.tmp 10)) _ _ _ _ :: _) _ _; refine (Row.new wa hz 94).wpStore' 94 (.tmp 3) (.tmp 10) (hcells s left N) rfl rfl rfl rfl (by rw [hz_len, LH.out]) (hcells_one _ _ _) (by rw [LH.out]; exact I39.out) ?_; intro wb HW))
  have HSb : Hid (wb.heap.size = wa.heap.size + 1) := by show wb.heap.size = _; rw [HW.out]; simp
  have HBb : Hid (Below wa.heap.size wa wb) := by show Below _ _ _; rw [HW.out]; exact Go.below_setRow ((Below.refl _ _).alloc (Nat.le_refl _) _) (Nat.le_refl _) _
  have HQb : Hid (Row wb wa.heap.size (hcells s left N) 94) := by show Row _ _ _ _; rw [HW.out]; exact (Row.new wa hz 94).row _
  have HRb : Hid (Row wb w.heap.size (bcells z32) 73) := HRr.out.kept HBb.out HRr.out.lt
  have hs3 := cell_kept HBb.out hs2
  have HBw : Hid (Below w.heap.size w wb) := HBa.out.trans (HBb.out.mono HBa.out.size)
  have HRQ : Hid (w.heap.size < wa.heap.size) := HRr.out.lt
  clear HW HRa HRr HBa HBb hs2
  generalize wa.heap.size = q at *
  obtain ⟨N8, hN8⟩ : ∃ N8, N8 = N * 8 % 18446744073709551616 := ⟨_, rfl⟩
  have w8 : IntKind.u64.wrap ((N : Int) * 8) = (N8 : Int) := by rw [IntKind.wrap_u64]; omega
  have w8' : ((N : Int) * 8) % 18446744073709551616 = (N8 : Int) := by omega
  have HN8 : Hid _ := hN8
  have HL8 : Hid (N8 < 18446744073709551616) := by show N8 < _; rw [hN8]; exact Nat.mod_lt _ (by decide)
  have i63 : (Tryd.prog.info? 87).map (·.size) = some 8 := by kernel_rfl
  have I63 : Hid _ := i63
  have LE : Hid ((eightL N8).length = 8) := by show (eightL N8).length = 8; simp [eightL]
  clear hN8 i63
  go_upto_region 3 with (first
    | (go_at_call 55; refine (eight_any _ N8 HL8.out).mono ?_; rintro e w1 ⟨rfl, hb1⟩; have HB1 : Hid _ := hb1; clear hb1)
    | (show wpList _ _ _ (Oper.mk none (.store 87 (.tmp 4) (.tmp 16)) _ _ _ _ :: _) _ _; refine (Row.new' w1 _ (bcells (e8 0 0)) 87 _ rfl rfl).wpStore' 87 (.tmp 4) (.tmp 16) (bcells (eightL N8)) rfl rfl rfl rfl (by rw [bcells_len, bcells_len, LE.out]; rfl) (bcells_one _) (by rw [bcells_len, LE.out]; exact I63.out) ?_; intro wc HW))
  have HLT : Hid (q < w1.heap.size) := Nat.lt_of_lt_of_le HQb.out.lt HB1.out.size
  have HBc : Hid (Below wb.heap.size wb wc) := by show Below _ _ _; rw [HW.out]; exact Go.below_setRow (HB1.out.alloc HB1.out.size _) HB1.out.size _
  have HEc : Hid (Row wc w1.heap.size (bcells (eightL N8)) 87) := by show Row _ _ _ _; rw [HW.out]; exact (Row.new' w1 _ (bcells (e8 0 0)) 87 _ rfl rfl).row _
  have HQc : Hid (Row wc q (hcells s left N) 94) := HQb.out.kept HBc.out HQb.out.lt
  have HRc : Hid (Row wc w.heap.size (bcells z32) 73) := HRb.out.kept HBc.out HRb.out.lt
  have hs4 := cell_kept HBc.out hs3
  have HBwc : Hid (Below w.heap.size w wc) := HBw.out.trans (HBc.out.mono HBw.out.size)
  have HKc : Hid (KTab wc) := HK.out.kept HBwc.out
  have HHc : Hid (HashAt wc q c) := ⟨s, left, HT.out, by rw [HN.out]; exact HQc.out⟩
  have Hq2 : Hid (1 ≤ q) := by show 1 ≤ q; have := h2.out; have := HRQ.out; omega
  clear HW HQb HRb hs3 HBw HBc HB1 HQc HR HNe HSa HSb
  generalize w1.heap.size = b8 at *
  go_upto_region 5 with (first
    | (go_at_call 67; refine (padding_any _ N).mono ?_; rintro e w2 ⟨g, cap, rfl, hg, hlc, hcc, hby, hb2⟩; have HG : Hid _ := hg; have HLC : Hid _ := hlc; have HCC : Hid _ := hcc; have HBY : Hid (BytesAt w2 (some ⟨g, 0, none⟩) (padL N)) := hby; have HB2 : Hid _ := hb2; clear hg hlc hcc hby hb2)
    | (go_at_call_of 57 (Value.slice (some ⟨g, 0, none⟩) (padL N).length cap); refine (take_len (c := c) (w := w2) (HHc.out.kept HB2.out) Hq2.out (HKc.out.kept HB2.out) rfl (HBY.out.offNe (by have h1 := HG.out; have h2 := HEc.out.lt; have h3 := HLT.out; omega)) HLC.out HCC.out).mono ?_; rintro e w3 ⟨rfl, hh, ho⟩; have HH3 : Hid _ := hh; have HO3 : Hid _ := ho; clear hh ho)
    | (go_at_call_of 57 (Value.slice (some ⟨b8, 0, none⟩) 8 8); refine (take_len (w := w3) (bs := eightL N8) HH3.out Hq2.out ((HKc.out.kept HB2.out).only HO3.out Hq2.out) LE.out ((HO3.out.row (HEc.out.kept HB2.out HEc.out.lt) (by have h3 := HLT.out; omega)).bytesOff (by have h3 := HLT.out; omega)) (Nat.le_refl _) (by decide)).mono ?_; rintro e w4 ⟨rfl, hh, ho⟩; have HH4 : Hid _ := hh; have HO4 : Hid _ := ho; clear hh ho))
  have HR4 : Hid (Row w4 w.heap.size (bcells z32) 73) := HO4.out.row (HO3.out.row (HRc.out.kept HB2.out HRc.out.lt) (by have := HRQ.out; omega)) (by have := HRQ.out; omega)
  have HB4 : Hid (Below w.heap.size w w4) := HBwc.out.trans ((HB2.out.mono HBwc.out.size).trans ((HO3.out.below (Nat.le_trans HBwc.out.size HB2.out.size) (Nat.le_of_lt HRQ.out)).trans (HO4.out.below (Nat.le_trans HBwc.out.size (Nat.le_trans HB2.out.size HO3.out.size)) (Nat.le_of_lt HRQ.out))))
  have HPAD : Hid (c ++ padL N ++ eightL N8 = padded c) := by show _ = padded c; unfold padded; rw [HN.out, ← HN8.out]
  have hh4 := HH4.out
  rw [HPAD.out] at hh4
  obtain ⟨s4, left4, hT4, R4⟩ := hh4
  have HSHA : Hid (sha c = (s4.l.map wordBytes).flatten) := by show sha c = _; unfold sha; rw [← hT4.st]
  have HQ4 : Hid _ := R4
  have i34 : (Tryd.prog.info? 90).map (·.size) = some 8 := by kernel_rfl
  have I34 : Hid _ := i34
  clear hT4 R4 i34 HH4 HH3 HO3 HO4 HB2 HHc HBY HG HLC HCC HEc HRc HBwc HKc HK hs4 HPAD HL8 HLT w8 w8' LE I63 LH HMN HN HN8 HT h2 I39 hz39
  generalize (padded c).length % 18446744073709551616 = M at *
  go_wp2_with (first
    | (show wpList _ _ _ (Oper.mk (some 26) (.load 90 (.tmp 25)) _ _ _ _ :: _) _ _; refine wpList_load_mid rfl 90 (.tmp 25) rfl q 1 rfl (wcells s4.l) _ ((HQ4.out.alloc _).range 1 _ (hcells_st _ _ _)) Tryd.underlying90 rfl I34.out ?_))
  obtain ⟨B, hB⟩ : ∃ B, B = w4.heap.size := ⟨_, rfl⟩
  rw [← hB]
  have HBB : Hid (w.heap.size < B) := by show _ < B; rw [hB]; exact HR4.out.lt
  have HB0 : Hid _ := hB
  clear hB
  go_loopw [27] (fun i wr => ∃ k : Nat, k ≤ 8 ∧ i = .int .i64 k ∧ Row wr B (bcells (outN s4.l k)) 73 ∧ Row wr w.heap.size (bcells z32) 73 ∧ Below w.heap.size w wr) (fun i _ => 8 - (intOf i).toNat)
  case atStart =>
    exact ⟨0, by omega, rfl, by rw [HB0.out]; exact Row.new' _ _ _ _ _ rfl rfl, HR4.out.alloc _, HB4.out.alloc HB4.out.size _⟩
  case round =>
    clear HR4 HB4 HQ4 HB0
    obtain ⟨k, hk, rfl, R1, R0, hb⟩ := hrel
    by_cases hlt : k < 8
    · have hlt' : (k : Int) < 8 := by omega
      have ix := run_index_words 90 8 Tryd.underlying90 s4.l rfl k hlt
      have HST : Hid _ := outN_step s4.l k rfl hlt
      have hlen := outN_len s4.l k rfl hk
      generalize s4.l.getD k 0 = x at *
      obtain ⟨m, hm⟩ : ∃ m, m = 4 * k := ⟨_, rfl⟩
      have hmi : (4 : Int) * (k : Int) = (m : Int) := by omega
      have hm28 : m ≤ 28 := by omega
      have f0 := R1.frozen m
      have f1 := R1.frozen (m + 1)
      have f2 := R1.frozen (m + 2)
      have f3 := R1.frozen (m + 3)
      obtain ⟨v0, c0⟩ : ∃ v, wr.cell? ⟨B, m, none⟩ = some v := ⟨_, R1.cell m _ (bcells_get (by omega))⟩
      obtain ⟨v1, c1⟩ : ∃ v, wr.cell? ⟨B, m + 1, none⟩ = some v := ⟨_, R1.cell (m + 1) _ (bcells_get (by omega))⟩
      obtain ⟨v2, c2⟩ : ∃ v, wr.cell? ⟨B, m + 2, none⟩ = some v := ⟨_, R1.cell (m + 2) _ (bcells_get (by omega))⟩
      obtain ⟨v3, c3⟩ : ∃ v, wr.cell? ⟨B, m + 3, none⟩ = some v := ⟨_, R1.cell (m + 3) _ (bcells_get (by omega))⟩
      have hmb : (m : Int) ≤ 28 := by omega
      have HR1 : Hid _ := R1
      have HR0 : Hid _ := R0
      have HB : Hid _ := hb
      have HM : Hid _ := hm
      clear R1 R0 hb hm hlen
      go_wp2
      go_roundw
      case rel =>
        refine ⟨k + 1, hlt, by go_num, ?_, (((HR0.out.setOther _ (show w.heap.size ≠ B by have := HBB.out; omega) _).setOther _ (show w.heap.size ≠ B by have := HBB.out; omega) _).setOther _ (show w.heap.size ≠ B by have := HBB.out; omega) _).setOther _ (show w.heap.size ≠ B by have := HBB.out; omega) _, ?_⟩
        · have hr := (((HR1.out.set m (.int .u8 (ub ((x >>> 24).setWidth 8)))).set (m + 1) (.int .u8 (ub ((x >>> 16).setWidth 8)))).set (m + 2) (.int .u8 (ub ((x >>> 8).setWidth 8)))).set (m + 3) (.int .u8 (ub (x.setWidth 8)))
          rw [bcells_set, bcells_set, bcells_set, bcells_set, HM.out, HST.out] at hr
          rw [HM.out]
          exact hr
        · have hle := Nat.le_of_lt HBB.out
          exact (((HB.out.setCell (p := ⟨B, m, none⟩) hle _).setCell (p := ⟨B, m + 1, none⟩) hle _).setCell (p := ⟨B, m + 2, none⟩) hle _).setCell (p := ⟨B, m + 3, none⟩) hle _
      case measure => simp [intOf]; omega
    · have ek : k = 8 := by omega
      subst ek
      rw [outN_full _ rfl, ← HSHA.out] at R1
      have HLS : Hid ((sha c).length = 32) := by show (sha c).length = 32; rw [HSHA.out, wordsFlat_len]; rfl
      have HR1 : Hid _ := R1
      have HR0 : Hid _ := R0
      have HB : Hid _ := hb
      clear R1 R0 hb HSHA
      generalize hE : sha c = E at *
      have HE : Hid _ := hE
      clear hE
      go_wp2_with (first
        | (show wpList _ _ _ (Oper.mk (some 58) (.load 73 (.tmp 5)) _ _ _ _ :: _) _ _; refine HR1.out.wpLoad 73 (.tmp 5) rfl rfl rfl _ Tryd.underlying73 rfl (by rw [bcells_len, HLS.out]; exact I44.out) ?_)
        | (show wpList _ _ _ (Oper.mk none (.store 73 (.tmp 2) (.tmp 58)) _ _ _ _ :: _) _ _; refine HR0.out.wpStore' 73 (.tmp 2) (.tmp 58) (bcells E) rfl rfl rfl rfl (by rw [bcells_len, bcells_len, HLS.out]; rfl) (bcells_one _) (by rw [bcells_len, HLS.out]; exact I44.out) ?_; intro wz HZ))
      have R : Row wz w.heap.size (bcells E) 73 := by rw [HZ.out]; exact HR0.out.row _
      have hB : Below w.heap.size w wz := by rw [HZ.out]; exact Go.below_setRow HB.out (Nat.le_refl _) _
      exact bodyPost_ret (v := .agg (bcells E).toArray) (R.result Tryd.results58 _ rfl _ Tryd.underlying73 rfl (by rw [bcells_len, HLS.out]; exact I44.out)) rfl ⟨by rw [HE.out], hB⟩
end Go.Proofs.YtjpllcliehgnfaaDoor
