import Derived.Test.YtjpllcliehgnfaaDoorJ9
import Derived.Test.YtjpllcliehgnfaaDoorJ10
import Derived.Test.YtjpllcliehgnfaaDoorJ11
import Derived.Lib.QuietBelow
namespace Go.Proofs.YtjpllcliehgnfaaDoor
open Go.RowKit
set_option maxRecDepth 100000

/-! What a frame says, and what a Half answers. -/
structure Fo where
  k : Int
  p : Int
  tok : BitVec 32
  non : BitVec 32
  bs : List (BitVec 8)
  bk : Bool
def Fo.zero : Fo := ⟨0, 0, 0#32, 0#32, [], false⟩
def FrA (B : Nat) (f : Fo) (v : Value) (w : World) : Prop := ∃ m, v = frV f.k f.p f.tok f.non m f.bk ∧ OwnB w B m f.bs
theorem FrA.kept {B : Nat} {f : Fo} {v : Value} {w w' : World} (h : FrA B f v w) (hb : Below w.heap.size w w') : FrA B f v w' := by
  obtain ⟨m, e, o⟩ := h
  exact ⟨m, e, o.kept hb⟩
theorem FrA.less {B C : Nat} {f : Fo} {v : Value} {w : World} (h : FrA B f v w) (hc : C ≤ B) : FrA C f v w := by
  obtain ⟨m, e, o⟩ := h
  exact ⟨m, e, o.less hc⟩
theorem OwnB.only {w w' : World} {B p : Nat} {v : Value} {bs : List (BitVec 8)} (h : OwnB w B v bs) (hb : Only p w w') (hp : p < B) : OwnB w' B v bs := by
  refine ⟨h.1, ?_⟩
  rcases h.2 with e | ⟨g, cap, cur, hv, h1, hg, h2⟩
  · exact .inl e
  · refine .inr ⟨g, cap, cur, hv, h1, ?_, h2⟩
    rw [hb.block g (Array.getElem?_eq_some_iff.1 hg).1 (by omega)]
    exact hg
theorem OwnB.nil (w : World) (B : Nat) : OwnB w B (.slice none 0 0) [] := ⟨rfl, .inl ⟨rfl, rfl⟩⟩
def Ans (w : World) (p : Nat) (h' : Hf) (f : Fo) (b : Bool) (e : Ending) (w' : World) : Prop := ∃ v, e = .returned (.tuple #[v, .bool b]) ∧ FrA w.heap.size f v w' ∧ HfAt w' p h' ∧ Only p w w'
theorem below_only {w w' : World} (h : Below w.heap.size w w') (p : Nat) : Only p w w' := Only.of_below h (Nat.le_refl _)

set_option maxHeartbeats 400000 in
theorem state_any {w : World} {p : Nat} {h : Hf} (hH : HfAt w p h) : Calls Tryd.prog 13 #[.pointer (some ⟨p, 0, none⟩)] w fun e w' => e = .returned (.int .i64 h.st) ∧ w' = w := by
  have c5 := Row.cell hH 5 _ rfl
  clear hH
  go_enter Tryd.func13, Tryd.ntmps13
  go_wp2
  go_ret
  exact ⟨rfl, rfl⟩
set_option maxHeartbeats 400000 in
theorem backup_any {w : World} {p : Nat} {h : Hf} (hH : HfAt w p h) : Calls Tryd.prog 17 #[.pointer (some ⟨p, 0, none⟩)] w fun e w' => e = .returned (.bool h.bk) ∧ w' = w := by
  have c6 := Row.cell hH 6 _ rfl
  clear hH
  go_enter Tryd.func17, Tryd.ntmps17
  go_wp2
  go_ret
  exact ⟨rfl, rfl⟩
set_option maxHeartbeats 400000 in
theorem leave_yes {w : World} {p : Nat} {h : Hf} (hH : HfAt w p h) (hs : h.st = 3) : Calls Tryd.prog 14 #[.pointer (some ⟨p, 0, none⟩)] w fun e w' => e = .returned (.bool true) ∧ HfAt w' p { h with st := 4 } ∧ Only p w w' := by
  have c5 := Row.cell hH 5 _ rfl
  rw [hs] at c5
  have f5 := Row.frozen hH 5
  have H := hid hH
  clear hH hs
  go_enter Tryd.func14, Tryd.ntmps14
  go_wp2
  go_ret
  exact ⟨rfl, Row.set H.out 5 (.int .i64 4), (Only.refl _ _).setCell _ _⟩
set_option maxHeartbeats 400000 in
theorem leave_no {w : World} {p : Nat} {h : Hf} (hH : HfAt w p h) (hs : ¬ h.st = 3) : Calls Tryd.prog 14 #[.pointer (some ⟨p, 0, none⟩)] w fun e w' => e = .returned (.bool false) ∧ w' = w := by
  have c5 := Row.cell hH 5 _ rfl
  clear hH
  go_enter Tryd.func14, Tryd.ntmps14
  go_wp2
  go_ret
  exact ⟨rfl, rfl⟩
set_option maxHeartbeats 800000 in
theorem begin_any {w : World} {p : Nat} {h : Hf} (hH : HfAt w p h) (st : Int) (now : Nat) (bk : Bool) : Calls Tryd.prog 25 #[.pointer (some ⟨p, 0, none⟩), .int .i64 st, .int .u64 (now : Int), .bool bk] w fun e w' => e = .returned (.tuple #[]) ∧ HfAt w' p { h with st := st, bk := bk, ag := 0, mrk := now } ∧ Only p w w' := by
  have c5 := Row.cell hH 5 _ rfl
  have f5 := Row.frozen hH 5
  have c6 := Row.cell hH 6 _ rfl
  have f6 := Row.frozen hH 6
  have c8 := Row.cell hH 8 _ rfl
  have f8 := Row.frozen hH 8
  have c9 := Row.cell hH 9 _ rfl
  have f9 := Row.frozen hH 9
  have H := hid hH
  clear hH
  go_enter Tryd.func25, Tryd.ntmps25
  go_wp2
  go_end0
  exact ⟨rfl, Row.set (Row.set (Row.set (Row.set H.out 5 (.int .i64 st)) 6 (.bool bk)) 8 (.int .i64 0)) 9 (.int .u64 (now : Int)), ((((Only.refl _ _).setCell _ _).setCell _ _).setCell _ _).setCell _ _⟩
def Hf.waits (h : Hf) : Bool := decide (h.st = 1 ∨ h.st = 2)
set_option maxHeartbeats 400000 in
theorem waits_any {w : World} {p : Nat} {h : Hf} (hH : HfAt w p h) : Calls Tryd.prog 27 #[.pointer (some ⟨p, 0, none⟩)] w fun e w' => e = .returned (.bool h.waits) ∧ w' = w := by
  have c5 := Row.cell hH 5 _ rfl
  have HW : Hid (h.waits = decide (h.st = 1 ∨ h.st = 2)) := rfl
  clear hH
  generalize h.st = s at *
  generalize h.waits = b at *
  go_enter Tryd.func27, Tryd.ntmps27
  by_cases h1 : s = 1
  · subst h1
    go_wp2
    go_ret
    exact ⟨by rw [HW.out]; rfl, rfl⟩
  · by_cases h2 : s = 2
    · subst h2
      go_wp2
      go_ret
      exact ⟨by rw [HW.out]; rfl, rfl⟩
    · have hd : decide (s = 1 ∨ s = 2) = false := by simp [h1, h2]
      rw [hd] at HW
      go_wp2
      go_ret
      exact ⟨by rw [HW.out]; show Ending.returned (Value.bool (s == 1 || s == 2)) = _; simp [h1, h2], rfl⟩
def Hf.wt (h : Hf) : Nat := Nat.min (1000 * 2 ^ h.ag) 60000
theorem wt_fin : ∀ n : Fin 17, min (IntKind.u64.wrap (1000 * 2 ^ min n.val 64)) 60000 = ((Nat.min (1000 * 2 ^ n.val) 60000 : Nat) : Int) := by decide
set_option maxHeartbeats 400000 in
theorem wait_any {w : World} {p : Nat} {h : Hf} (hH : HfAt w p h) (ha : h.ag ≤ 16) : Calls Tryd.prog 28 #[.pointer (some ⟨p, 0, none⟩)] w fun e w' => e = .returned (.int .u64 (h.wt : Int)) ∧ w' = w := by
  have c8 := Row.cell hH 8 _ rfl
  clear hH
  have HA := hid ha
  have HW : Hid (h.wt = Nat.min (1000 * 2 ^ h.ag) 60000) := rfl
  generalize h.ag = n at *
  generalize h.wt = t at *
  clear ha
  go_enter Tryd.func28, Tryd.ntmps28
  go_wp2
  go_ret
  refine ⟨?_, rfl⟩
  rw [HW.out, ← wt_fin ⟨n, by have := HA.out; omega⟩]
  rfl

/-! New and Start. -/
def clampR (r : Int) : Int := min (max r 1) 16
def mk0 (side path : Int) (own peer : Nat) (ret : Int) : Hf := ⟨side, path, own, peer, clampR ret, if path = 0 then 3 else 0, false, 0#32, 0, 0⟩
set_option maxHeartbeats 800000 in
theorem new_side {w : World} (s side path : Int) (own peer : Nat) (ret : Int) (hs : bits .and .i64 s 1 = side) : Calls Tryd.prog 9 #[.int .i64 s, .int .i64 path, .int .u64 (own : Int), .int .u64 (peer : Int), .int .i64 ret] w fun e w' => e = .returned (.pointer (some ⟨w.heap.size, 0, none⟩)) ∧ HfAt w' w.heap.size (mk0 side path own peer ret) ∧ Below w.heap.size w w' := by
  have HM : Hid (∀ st, (mk0 side path own peer ret).cells.set 5 (.int .i64 st) = [.int .i64 side, .int .i64 path, .int .u64 (own : Int), .int .u64 (peer : Int), .int .i64 (min (max ret 1) 16), .int .i64 st, .bool false, .int .u32 0, .int .i64 0, .int .u64 0]) := fun st => rfl
  go_enter Tryd.func9, Tryd.ntmps9
  go_upto_region 2 with fail
  refine wp_world fun wa HW => ?_
  have HR : Hid (Row wa w.heap.size [.int .i64 side, .int .i64 path, .int .u64 (own : Int), .int .u64 (peer : Int), .int .i64 (min (max ret 1) 16), .int .i64 0, .bool false, .int .u32 0, .int .i64 0, .int .u64 0] 57) := by show Row _ _ _ _; rw [HW.out]; exact Row.new' _ _ _ _ _ rfl rfl
  have HB : Hid (Below w.heap.size w wa) := by show Below _ _ _; rw [HW.out]; exact below_new _ _
  clear HW
  have c5 := HR.out.cell 5 _ rfl
  have f5 := HR.out.frozen 5
  by_cases hp : path = 0
  · subst hp
    go_wp2_with fail
    go_ret
    exact ⟨rfl, HR.out.set 5 (.int .i64 3), HB.out.setCell (show w.heap.size ≤ w.heap.size from Nat.le_refl _) _⟩
  · go_wp2_with fail
    go_ret
    refine ⟨rfl, ?_, HB.out⟩
    have := HR.out
    unfold HfAt mk0 Hf.cells
    rw [if_neg hp]
    exact this
theorem Row.result2 {P : Program} {w : World} {g : Nat} {c : List Value} {t : TypeId} {fn : Func} {p u : Tmp} {ty : TypeId} {v : Value} (h : Row w g c t) (hr : fn.results = #[.cell p ty, .tmp u]) (tmps : Array Value) (hp : tmps.getD p undef = .pointer (some ⟨g, 0, none⟩)) (hv : tmps.getD u undef = v) (d : TypeDesc)
    (hu : P.underlying ty = some d) (hd : (match d with | .struct _ | .array _ _ => true | _ => false) = true) (hi : (P.info? ty).map (·.size) = some c.length) : (results fn tmps).run P w = .ok (.tuple #[.agg c.toArray, v]) w := by
  have hp' : tmps[p]?.getD undef = .pointer (some ⟨g, 0, none⟩) := by simpa using hp
  have hv' : tmps[u]?.getD undef = v := by simpa using hv
  simp [results, hr, hp', hv', asAddr, run_loadVar_row w g t ty c.toArray (0, 0) d h.at_ hu hd (by simpa using hi)]
theorem ans_no {w wz : World} {p : Nat} {h : Hf} (hH : HfAt w p h) (hb : Below w.heap.size w wz) : Ans w p h Fo.zero false (.returned (.tuple #[.agg frZ.toArray, .bool false])) wz :=
  ⟨_, rfl, ⟨.slice none 0 0, rfl, OwnB.nil _ _⟩, hH.kept hb, below_only hb p⟩
theorem frZ_one : ∀ v ∈ frZ, v.oneCell' = true := frC_one _ _ _ _ _ _ _ _

set_option maxHeartbeats 1000000 in
theorem start_no {w : World} {p : Nat} {h : Hf} (hH : HfAt w p h) (hn : ¬ (h.side = 0 ∧ h.st = 0)) (now : Nat) (bk : Bool) :
    Calls Tryd.prog 10 #[.pointer (some ⟨p, 0, none⟩), .int .u64 (now : Int), .bool bk] w (Ans w p h Fo.zero false) := by
  have H := hid hH
  have HN := hid hn
  clear hH hn
  go_enter Tryd.func10, Tryd.ntmps10
  go_upto_region 1 with fail
  refine wp_world fun wa HW => ?_
  have HX : Hid (Row wa w.heap.size frZ 29) := by show Row _ _ _ _; rw [HW.out]; exact Row.new' _ _ _ _ _ rfl rfl
  have HB : Hid (Below w.heap.size w wa) := by show Below _ _ _; rw [HW.out]; exact below_new _ _
  have c0 := Row.cell (H.out.kept HB.out) 0 _ rfl
  have c5 := Row.cell (H.out.kept HB.out) 5 _ rfl
  clear HW
  by_cases h0 : h.side = 0
  · rw [h0] at c0
    have h5 : ¬ h.st = 0 := fun e => HN.out ⟨h0, e⟩
    generalize h.st = s at *
    go_wp2_with (first
      | (show wpList _ _ _ (Oper.mk none (.store 29 (.tmp 6) (.tmp 20)) _ _ _ _ :: _) _ _; refine HX.out.wpStore' 29 (.tmp 6) (.tmp 20) frZ rfl rfl rfl rfl rfl frZ_one i29 ?_; intro wz HZ))
    have hz : Row wz w.heap.size frZ 29 := by rw [HZ.out]; exact HX.out.row _
    have hb : Below w.heap.size w wz := by rw [HZ.out]; exact Go.below_setRow HB.out (Nat.le_refl _) _
    exact bodyPost_ret (hz.result2 Tryd.results10 _ rfl rfl _ Tryd.underlying29 rfl i29) rfl (ans_no H.out hb)
  · generalize h.side = s at *
    go_wp2_with (first
      | (show wpList _ _ _ (Oper.mk none (.store 29 (.tmp 6) (.tmp 20)) _ _ _ _ :: _) _ _; refine HX.out.wpStore' 29 (.tmp 6) (.tmp 20) frZ rfl rfl rfl rfl rfl frZ_one i29 ?_; intro wz HZ))
    have hz : Row wz w.heap.size frZ 29 := by rw [HZ.out]; exact HX.out.row _
    have hb : Below w.heap.size w wz := by rw [HZ.out]; exact Go.below_setRow HB.out (Nat.le_refl _) _
    exact bodyPost_ret (hz.result2 Tryd.results10 _ rfl rfl _ Tryd.underlying29 rfl i29) rfl (ans_no H.out hb)
def tok (k : Nat) : BitVec 32 := tokenOf (sha (eightL k))
def Hf.ask (h : Hf) : Fo := ⟨7, h.path, tok h.peer, nonceOf h.own h.path, [], h.bk⟩
def Hf.answer (h : Hf) : Fo := ⟨8, h.path, 0#32, nonceOf h.own h.path, (proofL h.own h.peer (nonceOf h.own h.path) h.hd).take 8, false⟩
def Hf.proves (h : Hf) (x : BitVec 32) : Fo := ⟨9, h.path, 0#32, 0#32, (proofL h.own h.peer (nonceOf h.own h.path) x).take 20, false⟩
set_option maxHeartbeats 1000000 in
theorem start_yes {w : World} {p : Nat} {h : Hf} (hH : HfAt w p h) (h0 : h.side = 0) (h5 : h.st = 0) (hpe : h.peer < 18446744073709551616) (hK : KTab w) (h2 : 1 ≤ p) (now : Nat) (bk : Bool) :
    Calls Tryd.prog 10 #[.pointer (some ⟨p, 0, none⟩), .int .u64 (now : Int), .bool bk] w (Ans w p { h with st := 1, bk := bk, ag := 0, mrk := now } ({ h with st := 1, bk := bk, ag := 0, mrk := now } : Hf).ask true) := by
  have H := hid hH
  have HK := hid hK
  have H2 := hid h2
  have HP := hid hpe
  clear hH hK h2 hpe
  go_enter Tryd.func10, Tryd.ntmps10
  go_upto_region 1 with fail
  refine wp_world fun wa HW => ?_
  have HX : Hid (Row wa w.heap.size frZ 29) := by show Row _ _ _ _; rw [HW.out]; exact Row.new' _ _ _ _ _ rfl rfl
  have HB : Hid (Below w.heap.size w wa) := by show Below _ _ _; rw [HW.out]; exact below_new _ _
  have HR := hid (H.out.kept HB.out)
  have c0 := Row.cell HR.out 0 _ rfl
  have c5 := Row.cell HR.out 5 _ rfl
  rw [h0] at c0
  rw [h5] at c5
  clear HW h0 h5
  have HLT : Hid (p < w.heap.size) := Row.lt H.out
  go_wp2_with (first
    | (go_at_call 25; refine (begin_any HR.out 1 now bk).mono ?_; rintro e w1 ⟨rfl, hr1, ho1⟩; have HR1 := hid hr1; have HO1 := hid ho1; clear hr1 ho1)
    | (go_at_call 26; refine (join_any HR1.out HP.out ((HK.out.kept HB.out).only HO1.out H2.out) (by have := HO1.out.size; have := HX.out.lt; have := HLT.out; have := H2.out; omega)).mono ?_; rintro e w2 ⟨rfl, hb2⟩; have HB2 := hid hb2; clear hb2)
    | (show wpList _ _ _ (Oper.mk none (.store 29 (.tmp 6) (.tmp 26)) _ _ _ _ :: _) _ _; refine ((HO1.out.row HX.out (by have := HLT.out; omega)).kept HB2.out (HO1.out.row HX.out (by have := HLT.out; omega)).lt).wpStore' 29 (.tmp 6) (.tmp 26) (frC 7 h.path (tok h.peer) (nonceOf h.own h.path) (.slice none 0 0) bk) rfl rfl rfl rfl rfl (frC_one _ _ _ _ _ _ _ _) i29 ?_; intro wz HZ))
  have R1 : Row w1 w.heap.size frZ 29 := HO1.out.row HX.out (by have := HLT.out; omega)
  have R2 : Row w2 w.heap.size frZ 29 := R1.kept HB2.out R1.lt
  have hz : Row wz w.heap.size (frC 7 h.path (tok h.peer) (nonceOf h.own h.path) (.slice none 0 0) bk) 29 := by rw [HZ.out]; exact R2.row _
  have o2 : Only p w w2 := ((below_only HB.out p).trans HO1.out).trans (below_only HB2.out p)
  have oz : Only p w wz := by
    rw [HZ.out]
    refine ⟨o2.os, o2.tape, o2.output, ?_, fun k hk hp => ?_⟩
    · exact Nat.le_trans o2.size (by simp [World.setRow])
    · rw [setRow_other w2 _ k _ (by omega)]; exact o2.block k hk hp
  have hp2 : HfAt w2 p { h with st := 1, bk := bk, ag := 0, mrk := now } := HR1.out.kept HB2.out
  have hpz : HfAt wz p { h with st := 1, bk := bk, ag := 0, mrk := now } := by rw [HZ.out]; exact Row.rowOther hp2 (by have := HLT.out; omega) _
  exact bodyPost_ret (hz.result2 Tryd.results10 _ rfl rfl _ Tryd.underlying29 rfl i29) rfl ⟨_, rfl, ⟨_, rfl, OwnB.nil _ _⟩, hpz, oz⟩
end Go.Proofs.YtjpllcliehgnfaaDoor
