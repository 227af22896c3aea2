import Derived.Test.YtaklbofbhanjgaaDoorDs0
import Derived.Laws.ResultCell
namespace Go.Proofs.YtaklbofbhanjgaaDoor
open Go.RowKit
set_option maxRecDepth 100000
theorem Row.result2 {P : Program} {w : World} {g : Nat} {c : List Value} {t : TypeId} {fn : Func} {p u : Tmp} {ty : TypeId} (h : Row w g c t) (hr : fn.results = #[.cell p ty, .tmp u]) (tmps : Array Value) (hp : tmps.getD p undef = .pointer (some ⟨g, 0, none⟩)) (d : TypeDesc)
    (hu : P.underlying ty = some d) (hd : (match d with | .struct _ | .array _ _ => true | _ => false) = true) (hi : (P.info? ty).map (·.size) = some c.length) : (results fn tmps).run P w = .ok (.tuple #[.agg c.toArray, tmps.getD u undef]) w := by
  have hp' : tmps[p]?.getD undef = .pointer (some ⟨g, 0, none⟩) := by simpa using hp
  simp [results, hr, hp', asAddr, run_loadVar_row w g t ty c.toArray (0, 0) d h.at_ hu hd (by simpa using hi)]
theorem fr_below {w w' : World} {m B : Nat} (h : Fr (fun k => k = m) w w') (hm : B ≤ m) (hB : B ≤ w.heap.size) : Below B w w' := h.below (fun x e => by omega) hB
/-- Behind the body's making. -/
structure DMid (w w4 : World) (b6 b8 bA mm : Nat) (C Z Y : List Value) : Prop where
  r8 : Row w4 b8 C 39
  r6 : Row w4 b6 Z 39
  rA : Row w4 bA Y 63
  mp : w4.heap[mm]? = some (.map #[] 0)
  bl : Below w.heap.size w w4
  lt : b6 < b8 ∧ b8 < mm ∧ mm < bA
  ge : w.heap.size ≤ b6
theorem DMid.kept {w w4 w5 : World} {b6 b8 bA mm : Nat} {C Z Y : List Value} (h : DMid w w4 b6 b8 bA mm C Z Y) (hb : Below w4.heap.size w4 w5) : DMid w w5 b6 b8 bA mm C Z Y :=
  ⟨h.r8.kept hb h.r8.lt, h.r6.kept hb h.r6.lt, h.rA.kept hb h.rA.lt, (hb.block mm (Array.getElem?_eq_some_iff.1 h.mp).1).trans h.mp, h.bl.trans (hb.mono h.bl.size), h.lt, h.ge⟩
theorem d_mid {w w2 w3 w4 : World} {b6 b8 bA mm : Nat} {C Z : List Value} {a : Option Addr} {n c : Nat} {P : Int} (h : Row w2 b8 C 39 ∧ Row w2 b6 Z 39 ∧ Below w.heap.size w w2 ∧ b6 < b8 ∧ b8 < w2.heap.size) (hg : w.heap.size ≤ b6) (k : w2.heap.size ≤ mm ∧ w3.heap[mm]? = some (.map #[] 0) ∧ mm < w3.heap.size ∧ Below w2.heap.size w2 w3) (eA : w3.heap.size = bA) (hz : w4 = (w3.alloc (.cells #[.slice none 0 0, .int .i64 0, .map none] 63)).setRow w3.heap.size [.slice a n c, .int .i64 P, .map (some mm)].toArray) :
    DMid w w4 b6 b8 bA mm C Z [.slice a n c, .int .i64 P, .map (some mm)] := by
  obtain ⟨r8, r6, bl, l1, l2⟩ := h
  obtain ⟨k1, k2, k3, kb⟩ := k
  have rA : Row (w3.alloc (.cells #[.slice none 0 0, .int .i64 0, .map none] 63)) w3.heap.size [.slice none 0 0, .int .i64 0, .map none] 63 := Row.new w3 _ _
  have s2 := bl.size
  have s3 := kb.size
  subst eA
  rw [hz]
  refine ⟨((r8.kept kb r8.lt).alloc _).rowOther (by omega) _, ((r6.kept kb r6.lt).alloc _).rowOther (by omega) _, rA.row _, ?_, ?_, ⟨l1, by omega, k3⟩, hg⟩
  · rw [setRow_other _ _ _ _ (by omega), Below.heap_alloc _ _ _ k3]
    exact k2
  · exact Go.below_setRow ((bl.trans (kb.mono s2)).trans ((below_new w3 _).mono (by omega))) (by omega) _
theorem d_over {w w5 : World} {b6 b8 bA mm P c V : Nat} {C Z : List Value} {a : Option Addr} {bs E : List (BitVec 8)} (h : DMid w w5 b6 b8 bA mm C Z [.slice a bs.length c, .int .i64 (P : Int), .map (some mm)]) (hm : 2 ≤ mm) (hp : 1 ≤ P ∧ P ≤ 65536 ∧ bs.length ≤ 16777216) (hc : bs.length ≤ c ∧ c ≤ 9223372036854775807) (hB : BytesAt w a bs) (hK : KTab w) (h2 : 2 ≤ w.heap.size) (hV : (leavesL bs P).length = V) (hE : E = overL (leavesL bs P) 0 V) :
    Calls Tryd.prog 53 #[.pointer (some ⟨bA, 0, none⟩), .int .i64 0, .int .i64 (V : Int)] w5 fun e w' => e = .returned (.agg (bcells E).toArray) ∧ Row w' b8 C 39 ∧ Row w' b6 Z 39 ∧ Below w.heap.size w w' ∧ b6 < b8 ∧ w.heap.size ≤ b6 := by
  have ma : MemoAt w5 mm (leavesL bs P) := by
    refine ⟨#[], 0, h.mp, ⟨by simp, Go.MapKept.stamped_empty 0, by simp⟩, fun x hx => by simp at hx⟩
  have lA := h.rA.lt
  have lt := h.lt
  have ge := h.ge
  have bi : BdI bA 0 a c P mm bs w5.heap.size w5 := by
    refine ⟨h.rA.cell 0 _ rfl, h.rA.cell 1 _ rfl, h.rA.cell 2 _ rfl, hB.kept h.bl, ma, lA, by omega, by omega, hm, fun k hk g' o' e => ?_⟩
    obtain ⟨g, o, e2, hcell⟩ := hB k hk
    rw [e] at e2
    cases e2
    have hl := World.block_lt_of_cell? w _ hcell
    dsimp only at hl
    have := h.bl.size
    omega
  have ho := over_any hp.1 hp.2.1 hp.2.2 hc.1 hc.2 V 0 V w5 (Nat.zero_le _) (by omega) (by omega) bi (Nat.le_refl _) (hK.kept h.bl) (Nat.le_trans h2 h.bl.size)
  refine ho.mono ?_
  rintro e w6 ⟨rfl, hf, -⟩
  exact ⟨by rw [hE], hf.row h.r8 (by omega), hf.row h.r6 (by omega), h.bl.trans (fr_below hf (by omega) h.bl.size), lt.1, ge⟩
theorem Row.setCellsOther {g b : Nat} {t : TypeId} {c : List Value} (hne : b ≠ g) : ∀ (vs : List Value) (o : Nat) (w : World), Row w g c t → Row (w.setCells b o vs) g c t
  | [], _, _, h => h
  | v :: r, o, _, h => Row.setCellsOther hne r (o + 1) _ (h.setOther _ (fun e => hne e.symm) v)
set_option maxHeartbeats 8000000 in
/-- A file is described. -/
theorem describe_ok {nm : ByteArray} {a : Option Addr} {n c P : Nat} {bs : List (BitVec 8)} {w : World} (hB : BytesAt w a bs) (hn : bs.length = n) (hc : n ≤ c) (hcm : c ≤ 9223372036854775807) (hE : fitE ⟨nm, (n : Int), (P : Int), z32⟩ = 0) (hK : KTab w) (h2 : 2 ≤ w.heap.size) :
    Calls Tryd.prog 24 #[.string nm, .slice a n c, .int .i64 (P : Int)] w fun e w' => e = .returned (.tuple #[.agg (Mf.cells ⟨nm, (n : Int), (P : Int), rootF bs P⟩).toArray, .int .i64 0]) ∧ Below w.heap.size w w' := by
  subst hn
  obtain ⟨-, a1, a2, a3, a4⟩ := fitE_ok hE
  dsimp only at a1 a2 a3 a4
  have hP : 1 ≤ P := by omega
  have HFC : Hid (∀ w, Calls Tryd.prog 22 #[.agg (Mf.cells ⟨nm, (bs.length : Int), (P : Int), z32⟩).toArray] w fun e w' => e = .returned (.int .i64 0) ∧ Below w.heap.size w w') := fun w => hE ▸ fit_any
  have HCC : Hid (∀ w, Calls Tryd.prog 28 #[.agg (Mf.cells ⟨nm, (bs.length : Int), (P : Int), z32⟩).toArray] w fun e w' => e = .returned (.int .i64 ((leavesL bs P).length : Int)) ∧ Below w.heap.size w w') := fun w => by
    have := count_any (m := ⟨nm, (bs.length : Int), (P : Int), z32⟩) (w := w) rfl
    rw [cnt_file hP hE, ← leavesL_len] at this
    exact this
  have HL : Hid ((Mf.cells ⟨nm, (bs.length : Int), (P : Int), z32⟩).length = 35) := rfl
  have HC1 : Hid (∀ v ∈ Mf.cells ⟨nm, (bs.length : Int), (P : Int), z32⟩, v.oneCell' = true) := Mf.cells_one _
  have HBU : Hid (Tryd.prog.built 39 [(0, .string nm), (1, .int .i64 (bs.length : Int)), (2, .int .i64 (P : Int))] = some (Mf.cells ⟨nm, (bs.length : Int), (P : Int), z32⟩).toArray) := built39v _ _ _
  have I35 := hid iMf
  have I63 := hid i63
  have HBB := hid hB
  have HPB := hid (And.intro hP (And.intro (show P ≤ 65536 by omega) (show bs.length ≤ 16777216 by omega)))
  have HCN := hid (And.intro hc hcm)
  have HK := hid hK
  have H2 := hid h2
  have HRT : Hid (rootF bs P = overL (leavesL bs P) 0 (leavesL bs P).length) := rfl
  have HRL := hid (rootF_len bs P)
  have HMR : Hid (∀ (w : World) (g : Nat), Row w g (Mf.cells ⟨nm, (bs.length : Int), (P : Int), z32⟩) 39 → Row (w.setCells g 3 (bcells (rootF bs P))) g (Mf.cells ⟨nm, (bs.length : Int), (P : Int), rootF bs P⟩) 39) := fun w g h => mf_root h (rootF_len bs P)
  have HLR : Hid ((Mf.cells ⟨nm, (bs.length : Int), (P : Int), rootF bs P⟩).length = 35) := Mf.cells_len (rootF_len bs P)
  have HR1 : Hid (∀ v ∈ Mf.cells ⟨nm, (bs.length : Int), (P : Int), rootF bs P⟩, v.oneCell' = true) := Mf.cells_one _
  clear hB hc hcm hE hK h2 a1 a2 a3 a4 hP
  generalize Mf.cells ⟨nm, (bs.length : Int), (P : Int), rootF bs P⟩ = CR at *
  generalize hE : rootF bs P = E at *
  generalize Mf.cells ⟨nm, (bs.length : Int), (P : Int), z32⟩ = C at *
  clear hE
  generalize hLv : (leavesL bs P).length = V at *
  have HLV := hid hLv
  clear hLv
  go_enter Tryd.func24, Tryd.ntmps24
  go_upto_region 1 with (fail)
  refine wp_world fun wa HW => ?_
  have HR6 : Hid (Row wa w.heap.size mfZ.cells 39) := by show Row _ _ _ _; rw [HW.out]; exact Row.new' _ _ _ _ _ rfl rfl
  have HBa : Hid (Below w.heap.size w wa) := by show Below _ _ _; rw [HW.out]; exact below_new _ _
  clear HW
  obtain ⟨b6, e6⟩ : ∃ b, w.heap.size = b := ⟨_, rfl⟩
  have HB6 := hid e6
  rw [e6] at HR6 ⊢
  clear e6
  go_upto_region 2 with (first
    | (show wpList _ _ _ (Oper.mk (some 15) (.build 39 _) _ _ _ _ :: _) _ _; refine wpList_built rfl rfl ((congrArg (fun l => Tryd.prog.built 39 l) (by first | rfl | simp [Act.eval])).trans HBU.out) ?_)
    | (show wpList _ _ _ (Oper.mk none (.store 39 (.tmp 8) (.tmp 15)) _ _ _ _ :: _) _ _; refine (Row.new' wa _ mfZ.cells 39 _ rfl rfl).wpStore' 39 (.tmp 8) (.tmp 15) C rfl rfl rfl rfl (by rw [HL.out]; rfl) HC1.out (by rw [HL.out]; exact I35.out) ?_; intro w1 HZ))
  obtain ⟨b8, e8⟩ : ∃ b, wa.heap.size = b := ⟨_, rfl⟩
  rw [e8]
  have HR8 : Hid (Row w1 b8 C 39 ∧ Row w1 b6 mfZ.cells 39 ∧ Below w.heap.size w w1 ∧ b6 < b8 ∧ b8 < w1.heap.size) := by
    have hl := HR6.out.lt
    show _ ∧ _ ∧ _ ∧ _ ∧ _
    rw [HZ.out, ← e8]
    have r8 : Row (wa.alloc (.cells mfZ.cells.toArray 39)) wa.heap.size mfZ.cells 39 := Row.new wa _ _
    refine ⟨r8.row _, (HR6.out.alloc _).rowOther (by omega) _, Go.below_setRow (HBa.out.trans ((below_new wa _).mono HBa.out.size)) HBa.out.size _, hl, by rw [setRow_size]; exact r8.lt⟩
  clear HZ HR6 HBa e8
  simp only [Act.put]
  go_upto_region 5 with (first
    | (show wpList _ _ _ (Oper.mk (some 16) (.load 39 (.tmp 8)) _ _ _ _ :: _) _ _; refine HR8.out.1.wpLoad 39 (.tmp 8) rfl rfl rfl _ Tryd.underlying39 rfl (by rw [HL.out]; exact I35.out) ?_)
    | (go_at_call 22; refine Calls.mono (HFC.out _) ?_; rintro e w2 ⟨rfl, hb2⟩; have HB2 := hid hb2; clear hb2))
  have HD2 : Hid (Row w2 b8 C 39 ∧ Row w2 b6 mfZ.cells 39 ∧ Below w.heap.size w w2 ∧ b6 < b8 ∧ b8 < w2.heap.size) := ⟨HR8.out.1.kept HB2.out HR8.out.1.lt, HR8.out.2.1.kept HB2.out HR8.out.2.1.lt, HR8.out.2.2.1.trans (HB2.out.mono HR8.out.2.2.1.size), HR8.out.2.2.2.1, Nat.lt_of_lt_of_le HR8.out.2.2.2.2 HB2.out.size⟩
  clear HR8 HB2
  go_upto_region 6 with (first
    | (go_at_call 52; refine Calls.mono bodyOf_any ?_; rintro e w3 ⟨mm, rfl, hm1, hm2, hm3, hb3⟩; have HB3 := hid (And.intro hm1 (And.intro hm2 (And.intro hm3 hb3))); clear hm1 hm2 hm3 hb3)
    | (show wpList _ _ _ (Oper.mk none (.store 63 (.tmp 10) (.tmp 24)) _ _ _ _ :: _) _ _; refine (Row.new' w3 _ [.slice none 0 0, .int .i64 0, .map none] 63 _ rfl rfl).wpStore' 63 (.tmp 10) (.tmp 24) [.slice a bs.length c, .int .i64 P, .map (some mm)] rfl rfl rfl rfl rfl (by simp [Value.oneCell']) I63.out ?_; intro w4 HZ))
  obtain ⟨bA, eA⟩ : ∃ b, w3.heap.size = b := ⟨_, rfl⟩
  rw [eA]
  have HD4 : Hid (DMid w w4 b6 b8 bA mm C mfZ.cells [.slice a bs.length c, .int .i64 P, .map (some mm)] ∧ 2 ≤ mm) := by
    refine ⟨d_mid HD2.out (Nat.le_of_eq HB6.out) HB3.out eA HZ.out, ?_⟩
    have h1 := HB3.out.1
    have h2 := H2.out
    have h3 := HD2.out.2.2.1.size
    omega
  clear HD2 HB3 HZ eA
  simp only [Act.put]
  go_upto_region 7 with (first
    | (show wpList _ _ _ (Oper.mk (some 25) (.load 39 (.tmp 8)) _ _ _ _ :: _) _ _; refine HD4.out.1.r8.wpLoad 39 (.tmp 8) rfl rfl rfl _ Tryd.underlying39 rfl (by rw [HL.out]; exact I35.out) ?_)
    | (go_at_call 28; refine Calls.mono (HCC.out _) ?_; rintro e w5 ⟨rfl, hb5⟩; have HD5 := hid (HD4.out.1.kept hb5); clear hb5; have HO := hid (d_over HD5.out HD4.out.2 HPB.out HCN.out HBB.out HK.out H2.out HLV.out HRT.out))
    | (go_at_call 53; refine Calls.mono HO.out ?_; rintro e w6 ⟨rfl, hd6⟩; have HD6 := hid hd6; clear hd6)
    | (show wpList _ _ _ (Oper.mk none (.store 25 (.tmp 28) (.tmp 27)) _ _ _ _ :: _) _ _; refine wpList_store_mid rfl 25 (.tmp 28) (.tmp 27) rfl b8 3 (bcells E).toArray rfl rfl (HD6.out.1.thereMid (by rw [HL.out, List.size_toArray, bcells_len, HRL.out]; omega)) (by rw [List.size_toArray, bcells_len, HRL.out]; exact i44) (all_oneCell_toArray (bcells_one _)) ?_))
  have HD7 : Hid (Row (w6.setCells b8 3 (bcells E)) b8 CR 39 ∧ Row (w6.setCells b8 3 (bcells E)) b6 mfZ.cells 39 ∧ Below w.heap.size w (w6.setCells b8 3 (bcells E)) ∧ w.heap.size ≤ b6) := by
    obtain ⟨r8, r6, bl, lt, ge⟩ := HD6.out
    exact ⟨HMR.out _ _ r8, r6.setCellsOther (by omega) _ _ _, below_setCells (by omega) _ _ _ _ bl, ge⟩
  show Code.wp _ _ _ _ (w6.setCells b8 3 (bcells E))
  generalize w6.setCells b8 3 (bcells E) = w7 at *
  clear HD6 HO HD5 HD4
  simp only [Act.put]
  go_wp2_with (first
    | (show wpList _ _ _ (Oper.mk (some 29) (.load 39 (.tmp 8)) _ _ _ _ :: _) _ _; refine HD7.out.1.wpLoad 39 (.tmp 8) rfl rfl rfl _ Tryd.underlying39 rfl (by rw [HLR.out]; exact I35.out) ?_)
    | (show wpList _ _ _ (Oper.mk none (.store 39 (.tmp 6) (.tmp 29)) _ _ _ _ :: _) _ _; refine HD7.out.2.1.wpStore' 39 (.tmp 6) (.tmp 29) CR rfl rfl rfl rfl (by rw [HLR.out]; rfl) HR1.out (by rw [HLR.out]; exact I35.out) ?_; intro w8 HZ))
  have R : Row w8 b6 CR 39 := by rw [HZ.out]; exact HD7.out.2.1.row _
  have hB : Below w.heap.size w w8 := by rw [HZ.out]; exact Go.below_setRow HD7.out.2.2.1 HD7.out.2.2.2 _
  exact bodyPost_ret (v := .tuple #[.agg CR.toArray, .int .i64 0]) (R.result2 Tryd.results24 _ rfl _ Tryd.underlying39 rfl (by rw [HLR.out]; exact I35.out)) rfl ⟨rfl, hB⟩
end Go.Proofs.YtaklbofbhanjgaaDoor
