import Derived.Test.YtaklbofbhanjgaaDoorUp4
import Derived.Deep.MidRow
import Derived.ChangeKeysEq
namespace Go.Proofs.YtaklbofbhanjgaaDoor
open Go.RowKit
set_option maxRecDepth 100000
theorem run_store_func {P : Program} {w : World} {a : Addr} {m : Mode} (f : Fn) (x y : Array Value) : (store a (.func f x y) m).run P w = stored P w a (.func f x y) m := run_store P w a _ m rfl
set_option maxHeartbeats 2000000 in
theorem climb_any2 {σ : Type} {I : σ → World → Prop} {ans : σ → Nat → Nat → List (BitVec 8)} {nx : σ → Nat → Nat → σ} {cnt : σ → Nat} {fo : FuncId} {c0 c1 : Value} {B lo hi : Nat} {S : Nat → Prop} (O : Oth2 fo c0 c1 B lo hi S I ans nx cnt) {i : Nat} {f : List (BitVec 8)} {s : σ} {w : World} (hf : f.length = 32) (h1 : ¬ S 1) (hS : ∀ k, S k → k < B) (hB : B ≤ w.heap.size) (hlh : lo < hi) (hh : hi ≤ 4611686018427387904) (hK : KTab w) (h2 : 2 ≤ w.heap.size) (hz : cnt s = 0) (hI : I s w) :
    Calls Tryd.prog 43 #[.int .i64 (lo : Int), .int .i64 (hi : Int), .int .i64 (i : Int), .agg (bcells f).toArray, .func (.func fo) #[] #[c0, c1]] w fun e w' => e = .returned (.agg (bcells (upS i f ans nx (hi - lo) lo hi s).1).toArray) ∧ Fr S w w' ∧ I (upS i f ans nx (hi - lo) lo hi s).2 w' := by
  have HF := hid hf
  have I73 := hid i44
  have HUP := hid (up_any2 (pF := w.heap.size + 1) (pI := w.heap.size) (pU := w.heap.size + 1 + 1 + 1 + 1) (pO := w.heap.size + 1 + 1) (i := i) O hf h1 (fun h => by have := hS _ h; omega) (fun h => by have := hS _ h; omega) (fun h => by have := hS _ h; omega) (fun h => by have := hS _ h; omega) hS hh (hi - lo) lo hi s)
  have HL : Hid ((upS i f ans nx (hi - lo) lo hi s).1.length = 32) := upS_len hf _ _ _ _ hlh (Nat.le_refl _)
  have HK := hid hK
  have H2 := hid h2
  have HO := hid O
  have HB := hid hB
  have HS := hid hS
  have HI := hid hI
  have HLH := hid hlh
  clear hf h1 hS hB hlh hh hK h2 hI O
  go_enter Tryd.func43, Tryd.ntmps43
  go_upto_region 1 with (fail)
  refine wp_world fun wa HW => ?_
  obtain ⟨b, eb⟩ : ∃ b, w.heap.size = b := ⟨_, rfl⟩
  rw [eb] at HUP ⊢
  have HRW : Hid (Row wa b [.int .i64 (i : Int)] 3 ∧ Row wa (b + 1) (bcells f) 25 ∧ Row wa (b + 1 + 1) [.func (.func fo) #[] #[c0, c1]] 76 ∧ Row wa (b + 1 + 1 + 1) (bcells z32) 25) := by
    show _ ∧ _ ∧ _ ∧ _
    rw [HW.out, ← eb]
    refine ⟨(((Row.new w [.int .i64 (i : Int)] 3).alloc _).alloc _).alloc _, ?_, ?_, ?_⟩
    · exact (Row.new' _ _ _ _ _ (by simp) rfl |>.alloc _).alloc _
    · exact Row.new' _ _ _ _ _ (by simp) rfl |>.alloc _
    · exact Row.new' _ _ _ _ _ (by simp) rfl
  have HBa : Hid (Below w.heap.size w wa) := by show Below _ _ _; rw [HW.out]; exact (((Below.refl _ _).alloc (Nat.le_refl _) _).alloc (by simp) _ |>.alloc (by simp; omega) _).alloc (by simp; omega) _
  have HSz : Hid (wa.heap.size = b + 1 + 1 + 1 + 1) := by show _ = _; rw [HW.out, ← eb]; simp
  have HEB := hid eb
  clear HW eb
  go_upto_region 2 with (fail)
  rw [HSz.out]
  refine wp_world fun wb HW => ?_
  have hb1 : Below wa.heap.size wa wb := by rw [HW.out]; exact below_new _ _
  have R11 : Row wb (b + 1 + 1 + 1 + 1) [Value.nilFunc] 76 := by rw [HW.out, ← HSz.out]; exact Row.new _ _ _
  have HB2 := hid hb1
  have HSz2 : Hid (wb.heap.size = b + 1 + 1 + 1 + 1 + 1) := by show _ = _; rw [HW.out]; simp [HSz.out]
  have v11 := R11.cell 0 _ rfl
  have z11 := R11.frozen 0
  have HR11 := hid R11
  clear HW hb1 R11
  go_upto_region 3 with (fail)
  simp only [run_store_func]
  go_simp
  obtain ⟨wc, hw⟩ : ∃ wc, wb.setCell ⟨b + 1 + 1 + 1 + 1, 0, none⟩ (.func (.func 74) #[] #[.pointer (some ⟨b + 1, 0, none⟩), .pointer (some ⟨b, 0, none⟩), .pointer (some ⟨b + 1 + 1 + 1 + 1, 0, none⟩), .pointer (some ⟨b + 1 + 1, 0, none⟩)]) = wc := ⟨_, rfl⟩
  rw [hw]
  have HW := hid hw.symm
  clear hw
  have R11 : Hid (Row wc (b + 1 + 1 + 1 + 1) [.func (.func 74) #[] #[.pointer (some ⟨b + 1, 0, none⟩), .pointer (some ⟨b, 0, none⟩), .pointer (some ⟨b + 1 + 1 + 1 + 1, 0, none⟩), .pointer (some ⟨b + 1 + 1, 0, none⟩)]] 76) := by show Row _ _ _ _; rw [HW.out]; exact HR11.out.set 0 _
  have kk : ∀ {g c t}, Row wa g c t → g < b + 1 + 1 + 1 + 1 → Row wc g c t := fun {g c t} hr hg => by
    rw [HW.out]
    exact (hr.kept HB2.out hr.lt).setOther _ (by show g ≠ b + 1 + 1 + 1 + 1; omega) _
  have HRc : Hid (Row wc b [.int .i64 (i : Int)] 3 ∧ Row wc (b + 1) (bcells f) 25 ∧ Row wc (b + 1 + 1) [.func (.func fo) #[] #[c0, c1]] 76 ∧ Row wc (b + 1 + 1 + 1) (bcells z32) 25) := ⟨kk HRW.out.1 (by omega), kk HRW.out.2.1 (by omega), kk HRW.out.2.2.1 (by omega), kk HRW.out.2.2.2 (by omega)⟩
  have HBc : Hid (Below w.heap.size w wc) := by
    show Below _ _ _
    rw [HW.out]
    exact Below.setCell (HBa.out.trans (HB2.out.mono (by rw [HSz.out, HEB.out]; omega))) (by show w.heap.size ≤ b + 1 + 1 + 1 + 1; rw [HEB.out]; omega) _
  have HUc : Hid (UpAt wc (b + 1) b (b + 1 + 1 + 1 + 1) (b + 1 + 1) f i (.func (.func fo) #[] #[c0, c1])) := ⟨HK.out.kept HBc.out, Nat.le_trans H2.out HBc.out.size, HRc.out.2.1, HRc.out.1.cell 0 _ rfl, R11.out.cell 0 _ rfl, HRc.out.2.2.1.cell 0 _ rfl⟩
  have HC := hid (HUP.out wc HLH.out (Nat.le_refl _) (Nat.le_refl _) (Nat.le_refl _) HUc.out hz (HO.out.keep _ _ _ HI.out (Fr.of_below HBc.out (Nat.le_refl _))) (Nat.le_trans HB.out HBc.out.size))
  have u1 := R11.out.cell 0 _ rfl
  clear HW kk v11 z11
  obtain ⟨E, hE⟩ : ∃ E, upS i f ans nx (hi - lo) lo hi s = E := ⟨_, rfl⟩
  rw [hE] at HC HL
  have HEE := hid hE
  clear hE
  go_wp2_with (first
    | (go_at_call 74; refine Calls.mono HC.out ?_; rintro e w2 ⟨rfl, hl2, hf2, hi2⟩
       have HF2 := hid hf2
       have HI2 := hid hi2
       have HL2 := hid hl2
       have HR2 : Hid (Row w2 (b + 1 + 1 + 1) (bcells z32) 25) := hid (hf2.row HRc.out.2.2.2 (fun h => by have h1 := HS.out _ h; have h2 := HB.out; rw [HEB.out] at h2; omega))
       clear hl2 hf2 hi2)
    | (show wpList _ _ _ (Oper.mk none (.store 25 (.tmp 10) (.tmp 16)) _ _ _ _ :: _) _ _; refine HR2.out.wpStore' 25 (.tmp 10) (.tmp 16) (bcells E.1) rfl rfl rfl rfl (by rw [bcells_len, bcells_len, HL2.out]; rfl) (bcells_one _) (by rw [bcells_len, HL2.out]; exact I73.out) ?_; intro w3 HZ))
  have R : Row w3 (b + 1 + 1 + 1) (bcells E.1) 25 := by rw [HZ.out]; exact HR2.out.row _
  have hfin : Fr (fun k => w.heap.size ≤ k) w2 w3 := by
    rw [HZ.out]
    have h := Go.below_setRow (B := b) (Below.refl _ _) (g := b + 1 + 1 + 1) (by omega) (bcells E.1).toArray (w := w2)
    exact ⟨h.os, h.tape, h.output, h.size, fun k hk hs => h.block k (by have := HEB.out; omega)⟩
  have hFr : Fr S w w3 := ((Fr.of_below (S := S) HBc.out (Nat.le_refl _)).trans HF2.out fun x hx => Or.inl hx).trans hfin fun x hx => Or.inr hx
  exact bodyPost_ret (v := .agg (bcells E.1).toArray) (R.result Tryd.results43 _ rfl _ Tryd.underlying25 rfl (by rw [bcells_len, HL2.out]; exact I73.out)) rfl (by rw [HEE.out]; exact ⟨rfl, hFr, HO.out.keep _ _ _ HI2.out (hfin.wider fun x hx => Nat.le_trans HB.out hx)⟩)
set_option maxHeartbeats 2000000 in
theorem climb_any1 {σ : Type} {I : σ → World → Prop} {ans : σ → Nat → Nat → List (BitVec 8)} {nx : σ → Nat → Nat → σ} {cnt : σ → Nat} {fo : FuncId} {c0 : Value} {B lo hi : Nat} {S : Nat → Prop} (O : Oth1 fo c0 B lo hi S I ans nx cnt) {i : Nat} {f : List (BitVec 8)} {s : σ} {w : World} (hf : f.length = 32) (h1 : ¬ S 1) (hS : ∀ k, S k → k < B) (hB : B ≤ w.heap.size) (hlh : lo < hi) (hh : hi ≤ 4611686018427387904) (hK : KTab w) (h2 : 2 ≤ w.heap.size) (hz : cnt s = 0) (hI : I s w) :
    Calls Tryd.prog 43 #[.int .i64 (lo : Int), .int .i64 (hi : Int), .int .i64 (i : Int), .agg (bcells f).toArray, .func (.func fo) #[c0] #[]] w fun e w' => e = .returned (.agg (bcells (upS i f ans nx (hi - lo) lo hi s).1).toArray) ∧ Fr S w w' ∧ I (upS i f ans nx (hi - lo) lo hi s).2 w' := by
  have HF := hid hf
  have I73 := hid i44
  have HUP := hid (up_any1 (pF := w.heap.size + 1) (pI := w.heap.size) (pU := w.heap.size + 1 + 1 + 1 + 1) (pO := w.heap.size + 1 + 1) (i := i) O hf h1 (fun h => by have := hS _ h; omega) (fun h => by have := hS _ h; omega) (fun h => by have := hS _ h; omega) (fun h => by have := hS _ h; omega) hS hh (hi - lo) lo hi s)
  have HL : Hid ((upS i f ans nx (hi - lo) lo hi s).1.length = 32) := upS_len hf _ _ _ _ hlh (Nat.le_refl _)
  have HK := hid hK
  have H2 := hid h2
  have HO := hid O
  have HB := hid hB
  have HS := hid hS
  have HI := hid hI
  have HLH := hid hlh
  clear hf h1 hS hB hlh hh hK h2 hI O
  go_enter Tryd.func43, Tryd.ntmps43
  go_upto_region 1 with (fail)
  refine wp_world fun wa HW => ?_
  obtain ⟨b, eb⟩ : ∃ b, w.heap.size = b := ⟨_, rfl⟩
  rw [eb] at HUP ⊢
  have HRW : Hid (Row wa b [.int .i64 (i : Int)] 3 ∧ Row wa (b + 1) (bcells f) 25 ∧ Row wa (b + 1 + 1) [.func (.func fo) #[c0] #[]] 76 ∧ Row wa (b + 1 + 1 + 1) (bcells z32) 25) := by
    show _ ∧ _ ∧ _ ∧ _
    rw [HW.out, ← eb]
    refine ⟨(((Row.new w [.int .i64 (i : Int)] 3).alloc _).alloc _).alloc _, ?_, ?_, ?_⟩
    · exact (Row.new' _ _ _ _ _ (by simp) rfl |>.alloc _).alloc _
    · exact Row.new' _ _ _ _ _ (by simp) rfl |>.alloc _
    · exact Row.new' _ _ _ _ _ (by simp) rfl
  have HBa : Hid (Below w.heap.size w wa) := by show Below _ _ _; rw [HW.out]; exact (((Below.refl _ _).alloc (Nat.le_refl _) _).alloc (by simp) _ |>.alloc (by simp; omega) _).alloc (by simp; omega) _
  have HSz : Hid (wa.heap.size = b + 1 + 1 + 1 + 1) := by show _ = _; rw [HW.out, ← eb]; simp
  have HEB := hid eb
  clear HW eb
  go_upto_region 2 with (fail)
  rw [HSz.out]
  refine wp_world fun wb HW => ?_
  have hb1 : Below wa.heap.size wa wb := by rw [HW.out]; exact below_new _ _
  have R11 : Row wb (b + 1 + 1 + 1 + 1) [Value.nilFunc] 76 := by rw [HW.out, ← HSz.out]; exact Row.new _ _ _
  have HB2 := hid hb1
  have HSz2 : Hid (wb.heap.size = b + 1 + 1 + 1 + 1 + 1) := by show _ = _; rw [HW.out]; simp [HSz.out]
  have v11 := R11.cell 0 _ rfl
  have z11 := R11.frozen 0
  have HR11 := hid R11
  clear HW hb1 R11
  go_upto_region 3 with (fail)
  simp only [run_store_func]
  go_simp
  obtain ⟨wc, hw⟩ : ∃ wc, wb.setCell ⟨b + 1 + 1 + 1 + 1, 0, none⟩ (.func (.func 74) #[] #[.pointer (some ⟨b + 1, 0, none⟩), .pointer (some ⟨b, 0, none⟩), .pointer (some ⟨b + 1 + 1 + 1 + 1, 0, none⟩), .pointer (some ⟨b + 1 + 1, 0, none⟩)]) = wc := ⟨_, rfl⟩
  rw [hw]
  have HW := hid hw.symm
  clear hw
  have R11 : Hid (Row wc (b + 1 + 1 + 1 + 1) [.func (.func 74) #[] #[.pointer (some ⟨b + 1, 0, none⟩), .pointer (some ⟨b, 0, none⟩), .pointer (some ⟨b + 1 + 1 + 1 + 1, 0, none⟩), .pointer (some ⟨b + 1 + 1, 0, none⟩)]] 76) := by show Row _ _ _ _; rw [HW.out]; exact HR11.out.set 0 _
  have kk : ∀ {g c t}, Row wa g c t → g < b + 1 + 1 + 1 + 1 → Row wc g c t := fun {g c t} hr hg => by
    rw [HW.out]
    exact (hr.kept HB2.out hr.lt).setOther _ (by show g ≠ b + 1 + 1 + 1 + 1; omega) _
  have HRc : Hid (Row wc b [.int .i64 (i : Int)] 3 ∧ Row wc (b + 1) (bcells f) 25 ∧ Row wc (b + 1 + 1) [.func (.func fo) #[c0] #[]] 76 ∧ Row wc (b + 1 + 1 + 1) (bcells z32) 25) := ⟨kk HRW.out.1 (by omega), kk HRW.out.2.1 (by omega), kk HRW.out.2.2.1 (by omega), kk HRW.out.2.2.2 (by omega)⟩
  have HBc : Hid (Below w.heap.size w wc) := by
    show Below _ _ _
    rw [HW.out]
    exact Below.setCell (HBa.out.trans (HB2.out.mono (by rw [HSz.out, HEB.out]; omega))) (by show w.heap.size ≤ b + 1 + 1 + 1 + 1; rw [HEB.out]; omega) _
  have HUc : Hid (UpAt wc (b + 1) b (b + 1 + 1 + 1 + 1) (b + 1 + 1) f i (.func (.func fo) #[c0] #[])) := ⟨HK.out.kept HBc.out, Nat.le_trans H2.out HBc.out.size, HRc.out.2.1, HRc.out.1.cell 0 _ rfl, R11.out.cell 0 _ rfl, HRc.out.2.2.1.cell 0 _ rfl⟩
  have HC := hid (HUP.out wc HLH.out (Nat.le_refl _) (Nat.le_refl _) (Nat.le_refl _) HUc.out hz (HO.out.keep _ _ _ HI.out (Fr.of_below HBc.out (Nat.le_refl _))) (Nat.le_trans HB.out HBc.out.size))
  have u1 := R11.out.cell 0 _ rfl
  clear HW kk v11 z11
  obtain ⟨E, hE⟩ : ∃ E, upS i f ans nx (hi - lo) lo hi s = E := ⟨_, rfl⟩
  rw [hE] at HC HL
  have HEE := hid hE
  clear hE
  go_wp2_with (first
    | (go_at_call 74; refine Calls.mono HC.out ?_; rintro e w2 ⟨rfl, hl2, hf2, hi2⟩
       have HF2 := hid hf2
       have HI2 := hid hi2
       have HL2 := hid hl2
       have HR2 : Hid (Row w2 (b + 1 + 1 + 1) (bcells z32) 25) := hid (hf2.row HRc.out.2.2.2 (fun h => by have h1 := HS.out _ h; have h2 := HB.out; rw [HEB.out] at h2; omega))
       clear hl2 hf2 hi2)
    | (show wpList _ _ _ (Oper.mk none (.store 25 (.tmp 10) (.tmp 16)) _ _ _ _ :: _) _ _; refine HR2.out.wpStore' 25 (.tmp 10) (.tmp 16) (bcells E.1) rfl rfl rfl rfl (by rw [bcells_len, bcells_len, HL2.out]; rfl) (bcells_one _) (by rw [bcells_len, HL2.out]; exact I73.out) ?_; intro w3 HZ))
  have R : Row w3 (b + 1 + 1 + 1) (bcells E.1) 25 := by rw [HZ.out]; exact HR2.out.row _
  have hfin : Fr (fun k => w.heap.size ≤ k) w2 w3 := by
    rw [HZ.out]
    have h := Go.below_setRow (B := b) (Below.refl _ _) (g := b + 1 + 1 + 1) (by omega) (bcells E.1).toArray (w := w2)
    exact ⟨h.os, h.tape, h.output, h.size, fun k hk hs => h.block k (by have := HEB.out; omega)⟩
  have hFr : Fr S w w3 := ((Fr.of_below (S := S) HBc.out (Nat.le_refl _)).trans HF2.out fun x hx => Or.inl hx).trans hfin fun x hx => Or.inr hx
  exact bodyPost_ret (v := .agg (bcells E.1).toArray) (R.result Tryd.results43 _ rfl _ Tryd.underlying25 rfl (by rw [bcells_len, HL2.out]; exact I73.out)) rfl (by rw [HEE.out]; exact ⟨rfl, hFr, HO.out.keep _ _ _ HI2.out (hfin.wider fun x hx => Nat.le_trans HB.out hx)⟩)
end Go.Proofs.YtaklbofbhanjgaaDoor
namespace Go.Proofs.YtaklbofbhanjgaaDoor
open Go.RowKit
set_option maxRecDepth 100000
/-- Digests side by side. -/
def SumsAt (w : World) (a : Option Addr) (P : List (List (BitVec 8))) : Prop := ∀ k (h : k < P.length), ∃ g o, a = some ⟨g, o, none⟩ ∧ w.rangeAt g (o + k * 32) (bcells P[k])
/-- What a path's own function keeps: how many were met, and the path. -/
structure PthI (pM pP : Nat) (a : Option Addr) (c : Nat) (P : List (List (BitVec 8))) (B : Nat) (n : Nat) (w : World) : Prop where
  m : Row w pM [.int .i64 (n : Int)] 3
  p : w.cell? ⟨pP, 0, none⟩ = some (.slice a P.length c)
  s : SumsAt w a P
  mB : pM < B
  pB : pP < B
  ne : pM ≠ pP
  sB : ∀ k, k < P.length → ∀ g o, a = some ⟨g, o, none⟩ → g < B ∧ g ≠ pM
  len : ∀ x ∈ P, x.length = 32
def pthAns (P : List (List (BitVec 8))) (n _lo _hi : Nat) : List (BitVec 8) := P.getD n z32
theorem pthAns_len {P : List (List (BitVec 8))} (h : ∀ x ∈ P, x.length = 32) (n lo hi : Nat) : (pthAns P n lo hi).length = 32 := by
  unfold pthAns
  rw [List.getD_eq_getElem?_getD]
  by_cases e : n < P.length
  · rw [List.getElem?_eq_getElem e]; exact h _ (List.getElem_mem e)
  · rw [List.getElem?_eq_none (by omega)]; rfl
section
variable {pM pP c B n : Nat} {a : Option Addr} {P : List (List (BitVec 8))} {w : World}
theorem PthI.fr {w' : World} {S : Nat → Prop} (h : PthI pM pP a c P B n w) (f : Fr S w w') (hS : ∀ k, S k → B ≤ k) : PthI pM pP a c P B n w' :=
  ⟨f.row h.m (fun e => by have := hS _ e; have := h.mB; omega), f.cell h.p (fun e => by have := hS _ e; have := h.pB; dsimp only at *; omega), fun k hk => by
    obtain ⟨g, o, e, hr⟩ := h.s k hk
    exact ⟨g, o, e, fun j v hv => f.cell (hr j v hv) (fun e2 => by have := hS _ e2; have := (h.sB k hk g o e).1; dsimp only at *; omega)⟩, h.mB, h.pB, h.ne, h.sB, h.len⟩
theorem PthI.put {w' : World} {m : Nat} (h : PthI pM pP a c P B n w) (f : Fr (fun k => k = pM) w w') (hm : Row w' pM [.int .i64 (m : Int)] 3) : PthI pM pP a c P B m w' :=
  ⟨hm, f.cell h.p (fun e => h.ne e.symm), fun k hk => by
    obtain ⟨g, o, e, hr⟩ := h.s k hk
    exact ⟨g, o, e, fun j v hv => f.cell (hr j v hv) (fun e2 => (h.sB k hk g o e).2 e2)⟩, h.mB, h.pB, h.ne, h.sB, h.len⟩
end
set_option maxHeartbeats 2000000 in
theorem lead1_any {pM pP c B n : Nat} {a : Option Addr} {P : List (List (BitVec 8))} {w : World} {lo hi : Nat} (h : PthI pM pP a c P B n w) (hn : n ≤ 4611686018427387904) (hP : P.length ≤ 9223372036854775807) (hB : B ≤ w.heap.size) :
    Calls Tryd.prog 44 #[.int .i64 (lo : Int), .int .i64 (hi : Int), .pointer (some ⟨pM, 0, none⟩), .pointer (some ⟨pP, 0, none⟩)] w fun e w' => e = .returned (.agg (bcells (pthAns P n lo hi)).toArray) ∧ Fr (fun k => k = pM) w w' ∧ PthI pM pP a c P B (n + 1) w' := by
  have H := hid h
  have I73 := hid i44
  have hn2 : (n : Int) ≤ 4611686018427387904 := by omega
  have HBB := hid hB
  have HLA : Hid ((pthAns P n lo hi).length = 32) := pthAns_len h.len n lo hi
  obtain ⟨A, hA⟩ : ∃ A, pthAns P n lo hi = A := ⟨_, rfl⟩
  rw [hA] at HLA
  have HA := hid hA
  clear h hA hB
  go_enter Tryd.func44, Tryd.ntmps44
  go_upto_region 1 with (fail)
  refine wp_world fun wa HW => ?_
  have HRr : Hid (Row wa w.heap.size (bcells z32) 25) := by show Row _ _ _ _; rw [HW.out]; exact Row.new' _ _ _ _ _ rfl rfl
  have HBa : Hid (Below w.heap.size w wa) := by show Below _ _ _; rw [HW.out]; exact (Below.refl _ _).alloc (Nat.le_refl _) _
  clear HW
  have HMa := hid (H.out.m.kept HBa.out H.out.m.lt)
  have m1 := HMa.out.cell 0 _ rfl
  have m2 := HMa.out.frozen 0
  go_upto_region 2 with (fail)
  refine wp_world fun wb HW => ?_
  have HMb : Hid (Row wb pM [.int .i64 ((n + 1 : Nat) : Int)] 3) := by show Row _ _ _ _; rw [HW.out]; exact HMa.out.set 0 _
  have HFb : Hid (Fr (fun k => k = pM) w wb) := by
    show Fr _ _ _
    rw [HW.out]
    exact (Fr.of_below (S := fun k => k = pM) HBa.out (Nat.le_refl _)).trans (T := fun k => k = pM) ⟨rfl, rfl, rfl, by simp, fun k _ hk => Below.heap_setCell wa ⟨pM, 0, none⟩ _ k hk⟩ (fun x e => Or.inl e)
  have HNE : Hid (w.heap.size ≠ pM) := by show _ ≠ _; have := H.out.m.lt; omega
  have HRb : Hid (Row wb w.heap.size (bcells z32) 25) := by show Row _ _ _ _; rw [HW.out]; exact HRr.out.setOther _ HNE.out _
  have HPb := hid (H.out.put HFb.out HMb.out)
  clear HW m1 m2 HMa HRr
  have m1 := HMb.out.cell 0 _ rfl
  rw [show ((n + 1 : Nat) : Int) = (n : Int) + 1 by omega] at m1
  have m2 := HPb.out.p
  have HI : Hid (∀ w', Fr (fun k => k = w.heap.size) wb w' → PthI pM pP a c P B (n + 1) w') := fun w' hf => HPb.out.fr hf fun k hk => by rw [hk]; exact HBB.out
  have fin : ∀ (wz : World) (tmps : Array Value), Hid (wz = wb.setRow w.heap.size (bcells A).toArray) → tmps.getD 6 undef = .pointer (some ⟨w.heap.size, 0, none⟩) → bodyPost Tryd.prog Tryd.f44 (fun e w' => e = .returned (.agg (bcells (pthAns P n lo hi)).toArray) ∧ Fr (fun k => k = pM) w w' ∧ PthI pM pP a c P B (n + 1) w') .ret ⟨tmps, []⟩ wz := fun wz tmps HZ ht => by
    have R : Row wz w.heap.size (bcells A) 25 := by rw [HZ.out]; exact HRb.out.row _
    have hf : Fr (fun k => k = w.heap.size) wb wz := by
      rw [HZ.out]
      have hl := HRb.out.lt
      exact ⟨rfl, rfl, rfl, by unfold World.setRow; simp, fun k hk hs => setRow_other wb w.heap.size k _ hs⟩
    have hF2 : Fr (fun k => k = pM) w wz := HFb.out.trans hf fun x e => Or.inr (by rw [e]; exact Nat.le_refl _)
    exact bodyPost_ret (v := .agg (bcells A).toArray) (R.result Tryd.results44 _ ht _ Tryd.underlying25 rfl (by rw [bcells_len, HLA.out]; exact I73.out)) rfl ⟨by rw [HA.out], hF2, HI.out _ hf⟩
  by_cases hk : n < P.length
  · obtain ⟨g, o, ea, hr⟩ := HPb.out.s n hk
    have hA2 : P[n] = A := by rw [← HA.out]; unfold pthAns; rw [List.getD_eq_getElem?_getD, List.getElem?_eq_getElem hk]; rfl
    rw [hA2] at hr
    have HRG := hid hr
    have hki : (n : Int) < (P.length : Int) := by omega
    have hpi : (P.length : Int) ≤ 9223372036854775807 := by omega
    rw [ea] at m2
    clear hr hA2
    go_wp2_with (first
      | (show wpList _ _ _ (Oper.mk (some 18) (.load 25 (.tmp 17)) _ _ _ _ :: _) _ _; refine wpList_load_mid rfl 25 (.tmp 17) rfl g (o + n * 32) rfl (bcells A) _ HRG.out Tryd.underlying25 rfl (by rw [bcells_len, HLA.out]; exact I73.out) ?_)
      | (show wpList _ _ _ (Oper.mk none (.store 25 (.tmp 6) (.tmp 18)) _ _ _ _ :: _) _ _; refine HRb.out.wpStore' 25 (.tmp 6) (.tmp 18) (bcells A) rfl rfl rfl rfl (by rw [bcells_len, bcells_len, HLA.out]; rfl) (bcells_one _) (by rw [bcells_len, HLA.out]; exact I73.out) ?_; intro wz HZ))
    exact fin _ _ HZ rfl
  · have hki : (P.length : Int) ≤ (n : Int) := by omega
    have hA2 : z32 = A := by rw [← HA.out]; unfold pthAns; rw [List.getD_eq_getElem?_getD, List.getElem?_eq_none (by omega)]; rfl
    go_wp2_with (first
      | (show wpList _ _ _ (Oper.mk none (.store 25 (.tmp 6) (.tmp 13)) _ _ _ _ :: _) _ _; refine HRb.out.wpStore' 25 (.tmp 6) (.tmp 13) (bcells z32) rfl rfl rfl rfl rfl (bcells_one _) (by rw [bcells_len]; exact I73.out) ?_; intro wz HZ))
    rw [hA2] at HZ
    exact fin _ _ HZ rfl
end Go.Proofs.YtaklbofbhanjgaaDoor
namespace Go.Proofs.YtaklbofbhanjgaaDoor
open Go.RowKit
set_option maxRecDepth 100000
/-! Two digests are compared. -/
theorem items_eq {xs ys : List (BitVec 8)} {N : Nat} (hx : xs.length = N) (hy : ys.length = N) (w : World) : ∀ is : List Nat, (∀ i ∈ is, i < N) → (Op.eqItems 9999 5 1 (bcells xs).toArray (bcells ys).toArray is).run Tryd.prog w = .ok (is.all fun i => xs.getD i 0 == ys.getD i 0) w
  | [], _ => by simp [Op.eqItems]
  | i :: is, hi => by
    have hin := hi i (by simp)
    have h1 : (bcells xs).toArray[i]? = some (.int .u8 (ub (xs.getD i 0))) := by
      rw [List.getElem?_toArray, bcells_get (by omega)]
      simp [List.getD_eq_getElem?_getD, show i < xs.length by omega]
    have h2 : (bcells ys).toArray[i]? = some (.int .u8 (ub (ys.getD i 0))) := by
      rw [List.getElem?_toArray, bcells_get (by omega)]
      simp [List.getD_eq_getElem?_getD, show i < ys.length by omega]
    have hp : (part 5 (bcells xs).toArray i).run Tryd.prog w = .ok (.int .u8 (ub (xs.getD i 0))) w := run_part_plain w (by kernel_rfl) h1
    have hq : (part 5 (bcells ys).toArray i).run Tryd.prog w = .ok (.int .u8 (ub (ys.getD i 0))) w := run_part_plain w (by kernel_rfl) h2
    rw [List.all_cons]
    generalize xs.getD i 0 = x at *
    generalize ys.getD i 0 = y at *
    have he : (Op.equalIn 9999 5 (.int .u8 (ub x)) (.int .u8 (ub y))).run Tryd.prog w = .ok (ub x == ub y) w := run_equalIn_int w 9998 5 .u8 .u8 (ub x) (ub y) Tryd.underlying5
    have ih := items_eq hx hy w is (fun j hj => hi j (by simp [hj]))
    simp only [Op.eqItems, Nat.mul_one, Sem.run_bind, hp, hq, Result.andThen_ok, he]
    by_cases hxy : x = y
    · subst hxy
      simp only [beq_self_eq_true, Bool.not_true, Bool.false_eq_true, if_false, ih, Bool.true_and]
    · have hne : (ub x == ub y) = false := by simp; intro e; exact hxy (ub_inj e)
      have hn2 : (x == y) = false := by simp [hxy]
      simp [hne, hn2]
theorem eq25 {E F : List (BitVec 8)} (hE : E.length = 32) (hF : F.length = 32) (w : World) : (Op.equalIn 10000 25 (.agg (bcells E).toArray) (.agg (bcells F).toArray)).run Tryd.prog w = .ok (decide (E = F)) w := by
  obtain ⟨i, h1, _, _, _⟩ := info5
  rw [run_equalIn_array w 9999 (i := i) (bcells E).toArray (bcells F).toArray Tryd.underlying25 h1, show Tryd.prog.cellsOf 5 = 1 by kernel_rfl, items_eq (N := 32) hE hF w _ (fun j hj => by simpa using hj)]
  congr 1
  rw [Bool.eq_iff_iff, List.all_eq_true, decide_eq_true_iff]
  constructor
  · intro h
    apply List.ext_getElem (by rw [hE, hF])
    intro j hj hj2
    have := h j (by simpa using (show j < 32 by omega))
    simpa [List.getD_eq_getElem?_getD, hj, hj2] using this
  · rintro rfl j _
    simp

theorem Row.wpLoadG {P : Program} {w : World} {g : Nat} {c : List Value} {t : TypeId} {ops : Array Oper} {rest : List Oper} {o : Oper} {a : Act} {Q : Exit → Act → World → Prop} (h : Row w g c t) (ty : TypeId) (x : Operand) {j : Nat} (hgd : o.guard = some (j, true)) (hy : yielded ops a.tmps j = some true) (ho : o.op = .load ty x)
    (hx : a.eval x = .pointer (some ⟨g, 0, none⟩)) (d : TypeDesc) (hu : P.underlying ty = some d) (hd : (match d with | .struct _ | .array _ _ => true | _ => false) = true) (hi : (P.info? ty).map (·.size) = some c.length)
    (k : wpList P ops Q rest (a.put o.dst (.agg c.toArray)) w) : wpList P ops Q (o :: rest) a w := by
  have hr := h.load (P := P) ty d hu hd hi
  refine wpList_step fun K hK => ?_
  rw [if_pos (by simp [Region.wanted, hgd, hy])]
  have e : (execOp a.eval o).run P w = .ok (.value (.agg c.toArray)) w := by
    generalize a.eval = r at *
    simp [execOp, ho, hx, hr]
  unfold Oper.wp
  rw [e, Oper.upon_value]
  exact hK _ _ k
theorem Fr.below {S : Nat → Prop} {w w' : World} {B : Nat} (h : Fr S w w') (hS : ∀ x, S x → B ≤ x) (hB : B ≤ w.heap.size) : Below B w w' :=
  ⟨h.os, h.tape, h.output, h.size, fun k hk => h.block k (by omega) (fun e => by have := hS k e; omega)⟩
theorem eg44 : ∀ args w, (callFunc 44 args).run Tryd.prog w = .ok (.enter 44 args) w := enters_of Tryd.func44 (by kernel_rfl) rfl
theorem oth_lead {pM pP c B lo0 hi0 : Nat} {a : Option Addr} {P : List (List (BitVec 8))} (hP : P.length ≤ 9223372036854775807) (hl : ∀ x ∈ P, x.length = 32) (hh : hi0 ≤ 4611686018427387904) : Oth2 44 (.pointer (some ⟨pM, 0, none⟩)) (.pointer (some ⟨pP, 0, none⟩)) B lo0 hi0 (fun k => k = pM) (PthI pM pP a c P B) (pthAns P) (fun n _ _ => n + 1) (fun n => n) where
  eg := eg44
  call := fun w s lo hi h hs _ _ hB _ _ _ _ => (lead1_any h (by omega) hP hB).mono fun e w' q => ⟨q.1, pthAns_len hl _ _ _, q.2.1, q.2.2⟩
  keep := fun s w1 w2 h f => h.fr f fun k hk => hk
  tick := fun s _ _ => Nat.le_refl _
  len := fun s lo hi _ _ _ _ => pthAns_len hl _ _ _
/-- Does a path lead from a digest, the one at a place of n, to a root? -/
def leadsB (root : List (BitVec 8)) (n i : Nat) (leaf : List (BitVec 8)) (P : List (List (BitVec 8))) : Bool :=
  decide ((upS i leaf (pthAns P) (fun n _ _ => n + 1) n 0 n 0).2 = P.length) && decide ((upS i leaf (pthAns P) (fun n _ _ => n + 1) n 0 n 0).1 = root)
set_option maxHeartbeats 2000000 in
theorem leads_any {w : World} {root leaf : List (BitVec 8)} {n i c : Nat} {a : Option Addr} {P : List (List (BitVec 8))} (hr : root.length = 32) (hl : leaf.length = 32) (hP : SumsAt w a P) (hP2 : P.length ≤ 9223372036854775807) (hP3 : ∀ x ∈ P, x.length = 32) (hi : i < n) (hn : n ≤ 4611686018427387904) (hK : KTab w) (h2 : 2 ≤ w.heap.size) :
    Calls Tryd.prog 18 #[.agg (bcells root).toArray, .int .i64 (n : Int), .int .i64 (i : Int), .agg (bcells leaf).toArray, .slice a P.length c] w fun e w' => e = .returned (.bool (leadsB root n i leaf P)) ∧ Below w.heap.size w w' := by
  have HRL := hid (And.intro hr hl)
  have HP := hid hP
  have HP2 := hid (And.intro hP2 hP3)
  have HIN := hid (And.intro hi hn)
  have HK := hid hK
  have H2 := hid h2
  have I73 := hid i44
  have q1 : (i : Int) < n := by omega
  have q2 : (n : Int) ≤ 4611686018427387904 := by omega
  clear hr hl hP hP2 hP3 hi hn hK h2
  go_enter Tryd.func18, Tryd.ntmps18
  go_upto_region 4 with (fail)
  refine wp_world fun wa HW => ?_
  obtain ⟨b, eb⟩ : ∃ b, w.heap.size = b := ⟨_, rfl⟩
  rw [eb]
  have HRW : Hid (Row wa b (bcells root) 25 ∧ Row wa (b + 1) (bcells leaf) 25 ∧ Row wa (b + 1 + 1) [.slice a P.length c] 23 ∧ Row wa (b + 1 + 1 + 1) [.int .i64 0] 3) := by
    show _ ∧ _ ∧ _ ∧ _
    rw [HW.out, ← eb]
    refine ⟨(((Row.new w (bcells root) 25).alloc _).alloc _).alloc _, ?_, ?_, ?_⟩
    · exact (Row.new' _ _ _ _ _ (by simp) rfl |>.alloc _).alloc _
    · exact Row.new' _ _ _ _ _ (by simp) rfl |>.alloc _
    · exact Row.new' _ _ _ _ _ (by simp) rfl
  have HBa : Hid (Below b w wa) := by show Below _ _ _; rw [HW.out, ← eb]; exact (((Below.refl _ _).alloc (Nat.le_refl _) _).alloc (by simp) _ |>.alloc (by simp; omega) _).alloc (by simp; omega) _
  have HSz : Hid (wa.heap.size = b + 1 + 1 + 1 + 1) := by show _ = _; rw [HW.out, ← eb]; simp
  have HEB := hid eb
  clear HW eb
  have hB2 : Below w.heap.size w wa := by rw [HEB.out]; exact HBa.out
  have hI0 : PthI (b + 1 + 1 + 1) (b + 1 + 1) a c P (b + 1 + 1 + 1 + 1) 0 wa :=
    ⟨HRW.out.2.2.2, HRW.out.2.2.1.cell 0 _ rfl, fun k hk => by
      obtain ⟨g, o, e, hr⟩ := HP.out k hk
      exact ⟨g, o, e, fun j v hv => cell_kept hB2 (hr j v hv)⟩, by omega, by omega, by omega, fun k hk g o e => by
      obtain ⟨g', o', e', hr⟩ := HP.out k hk
      rw [e'] at e
      cases e
      have h32 : (bcells P[k])[0]? = some (.int .u8 (ub (P[k].getD 0 0))) := by
        have := HP2.out.2 _ (List.getElem_mem hk)
        rw [bcells_get (by omega)]
        simp [List.getD_eq_getElem?_getD, show 0 < P[k].length by omega]
      have hl := World.block_lt_of_cell? w _ (hr 0 _ h32)
      rw [HEB.out] at hl
      dsimp only at hl
      omega, HP2.out.2⟩
  have HC := hid (climb_any2 (oth_lead (pM := b + 1 + 1 + 1) (pP := b + 1 + 1) (c := c) (B := b + 1 + 1 + 1 + 1) (a := a) (lo0 := 0) (hi0 := n) HP2.out.1 HP2.out.2 HIN.out.2) (i := i) (f := leaf) (s := 0) (w := wa) HRL.out.2 (by have := H2.out; rw [HEB.out] at this; omega) (fun k hk => by omega) (by rw [HSz.out]; exact Nat.le_refl _) (by have := HIN.out.1; omega) HIN.out.2 (HK.out.kept hB2) (Nat.le_trans H2.out hB2.size) rfl hI0)
  have HLE : Hid ((upS i leaf (pthAns P) (fun n _ _ => n + 1) n 0 n 0).1.length = 32) := upS_len HRL.out.2 _ _ _ _ (by have := HIN.out.1; omega) (by omega)
  rw [show n - 0 = n by omega] at HC
  obtain ⟨E, hE⟩ : ∃ E, upS i leaf (pthAns P) (fun n _ _ => n + 1) n 0 n 0 = E := ⟨_, rfl⟩
  have hle : leadsB root n i leaf P = (decide (E.2 = P.length) && decide (E.1 = root)) := by unfold leadsB; rw [hE]
  rw [hE] at HC HLE
  have HLB := hid hle
  clear hle hE hI0 hB2
  go_upto_region 5 with (first
    | (show wpList _ _ _ (Oper.mk (some 22) (.load 25 (.tmp 8)) _ _ _ _ :: _) _ _; refine HRW.out.2.1.wpLoad 25 (.tmp 8) rfl rfl rfl _ Tryd.underlying25 rfl (by rw [bcells_len, HRL.out.2]; exact I73.out) ?_)
    | (go_at_call 43; refine Calls.mono HC.out ?_; rintro e w2 ⟨rfl, hf2, hi2⟩
       have HF2 := hid hf2
       have HI2 := hid hi2
       clear hf2 hi2)
    | (show wpList _ _ _ (Oper.mk none (.store 25 (.tmp 12) (.tmp 24)) _ _ _ _ :: _) _ _; refine (Row.new' w2 _ (bcells z32) 25 _ rfl rfl).wpStore' 25 (.tmp 12) (.tmp 24) (bcells E.1) rfl rfl rfl rfl (by rw [bcells_len, bcells_len, HLE.out]; rfl) (bcells_one _) (by rw [bcells_len, HLE.out]; exact I73.out) ?_; intro w3 HZ))
  have hb3 : Below w2.heap.size w2 w3 := by rw [HZ.out]; exact Go.below_setRow (below_new w2 _) (Nat.le_refl _) _
  have HR12 : Hid (Row w3 w2.heap.size (bcells E.1) 25) := by show Row _ _ _ _; rw [HZ.out]; exact (Row.new' w2 _ (bcells z32) 25 _ rfl rfl).row _
  have HR5 : Hid (Row w3 b (bcells root) 25) := (HF2.out.row HRW.out.1 (by omega)).kept hb3 (Nat.lt_of_lt_of_le HRW.out.1.lt HF2.out.size)
  have m1 := (HI2.out.m.kept hb3 HI2.out.m.lt).cell 0 _ rfl
  have m2 := cell_kept hb3 HI2.out.p
  have HBF : Hid (Below w.heap.size w w3) := by
    show Below _ _ _
    rw [HEB.out]
    have h2 : Below b wa w2 := HF2.out.below (fun x e => by omega) (by rw [HSz.out]; omega)
    exact HBa.out.trans (h2.trans (hb3.mono (Nat.le_trans (by rw [HSz.out]; omega) HF2.out.size)))
  have HQ := hid (fun w => eq25 HLE.out HRL.out.1 w)
  have HL := hid (And.intro HLE.out HRL.out.1)
  generalize w2.heap.size = b4 at *
  generalize hE1 : E.1 = E1 at *
  generalize hE2 : E.2 = E2 at *
  clear HZ hb3 HRW HBa HSz HI2 HF2 HC hE1 hE2 HP HLE
  simp only [Act.put]
  by_cases e1 : E2 = P.length
  · have ei : (E2 : Int) = (P.length : Int) := by omega
    have hq := HQ.out
    have HLB2 : Hid (leadsB root n i leaf P = decide (E1 = root)) := by show _ = _; rw [HLB.out, e1]; simp
    generalize decide (E1 = root) = bb at *
    go_wp2_with (first
      | (show wpList _ _ _ (Oper.mk (some 30) (.load 25 (.tmp 12)) _ _ _ _ :: _) _ _; refine Row.wpLoadG HR12.out 25 (.tmp 12) (j := 4) rfl rfl rfl rfl _ Tryd.underlying25 rfl (by rw [bcells_len, HL.out.1]; exact I73.out) ?_)
      | (show wpList _ _ _ (Oper.mk (some 31) (.load 25 (.tmp 5)) _ _ _ _ :: _) _ _; refine Row.wpLoadG HR5.out 25 (.tmp 5) (j := 4) rfl rfl rfl rfl _ Tryd.underlying25 rfl (by rw [bcells_len, HL.out.2]; exact I73.out) ?_))
    go_ret
    exact ⟨by rw [HLB2.out]; simp, HBF.out⟩
  · have ei : ¬ ((E2 : Int) = (P.length : Int)) := by omega
    have HLB2 : Hid (leadsB root n i leaf P = false) := by show _ = _; rw [HLB.out]; simp [e1]
    clear HLB HQ
    go_wp2_with fail
    go_ret
    exact ⟨by rw [HLB2.out]; try rfl, HBF.out⟩
end Go.Proofs.YtaklbofbhanjgaaDoor
