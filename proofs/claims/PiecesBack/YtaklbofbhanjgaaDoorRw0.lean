import Derived.Test.YtaklbofbhanjgaaDoorLd1
namespace Go.Proofs.YtaklbofbhanjgaaDoor
open Go.RowKit
set_option maxRecDepth 100000
/-- The root over a row's digests from lo on, ahead of hi (within so many steps). -/
def overF (P : List (List (BitVec 8))) : Nat → Nat → Nat → List (BitVec 8)
  | 0, _, _ => sha []
  | k + 1, lo, hi => if lo = hi then sha [] else (upS (σ := Unit) lo (P.getD lo z32) (fun _ x y => overF P k x y) (fun _ _ _ => ()) (hi - lo) lo hi ()).1
theorem overF_len {P : List (List (BitVec 8))} (hP : ∀ x ∈ P, x.length = 32) : ∀ (k lo hi : Nat), lo ≤ hi → (overF P k lo hi).length = 32
  | 0, _, _, _ => sha_len _
  | k + 1, lo, hi, h => by
    unfold overF
    split
    · exact sha_len _
    · exact upS_len (by simpa [pthAns] using pthAns_len hP lo 0 0) _ _ _ _ (by omega) (Nat.le_refl _)
theorem eg39 : ∀ args w, (callFunc 39 args).run Tryd.prog w = .ok (.enter 39 args) w := enters_of Tryd.func39 (by kernel_rfl) rfl
theorem SumsAt.kept {w w' : World} {a : Option Addr} {P : List (List (BitVec 8))} (h : SumsAt w a P) (hb : Below w.heap.size w w') : SumsAt w' a P := fun k hk => by
  obtain ⟨g, o, e, hr⟩ := h k hk
  exact ⟨g, o, e, fun j v hv => cell_kept hb (hr j v hv)⟩
theorem Fr.none {w w' : World} (h : Fr (fun _ => False) w w') : Below w.heap.size w w' := ⟨h.os, h.tape, h.output, h.size, fun k hk => h.block k hk id⟩
/-- A row within memory below B. -/
structure RwI (a : Option Addr) (P : List (List (BitVec 8))) (B : Nat) (w : World) : Prop where
  s : SumsAt w a P
  b : ∀ k, k < P.length → ∀ g o, a = some ⟨g, o, none⟩ → g < B
theorem RwI.fr {a : Option Addr} {P : List (List (BitVec 8))} {B : Nat} {w w' : World} (h : RwI a P B w) (f : Fr (fun k => B ≤ k) w w') : RwI a P B w' :=
  ⟨fun k hk => by
    obtain ⟨g, o, e, hr⟩ := h.s k hk
    exact ⟨g, o, e, fun j v hv => f.cell (hr j v hv) (fun e2 => by have := h.b k hk g o e; dsimp only at *; omega)⟩, h.b⟩
theorem sumsAt_rw {w : World} {a : Option Addr} {P : List (List (BitVec 8))} (h : SumsAt w a P) (hP : ∀ x ∈ P, x.length = 32) : RwI a P w.heap.size w := ⟨h, fun k hk g o e => by
  obtain ⟨g', o', e', hr⟩ := h k hk
  rw [e'] at e
  cases e
  have h32 : (bcells P[k])[0]? = some (.int .u8 (ub (P[k].getD 0 0))) := by
    have := hP _ (List.getElem_mem hk)
    rw [bcells_get (by omega)]
    simp [List.getD_eq_getElem?_getD, show 0 < P[k].length by omega]
  exact World.block_lt_of_cell? w _ (hr 0 _ h32)⟩
set_option maxHeartbeats 2000000 in
theorem row_step {a : Option Addr} {c : Nat} {P : List (List (BitVec 8))} (hP : ∀ x ∈ P, x.length = 32) (hl : P.length ≤ 4611686018427387904) {E : List (BitVec 8)} {lo hi : Nat} {w : World} (hlh : lo < hi) (hh : hi ≤ P.length) (hS : SumsAt w a P) (hE : E.length = 32)
    (hC : ∀ wa, Below w.heap.size w wa → Calls Tryd.prog 43 #[.int .i64 (lo : Int), .int .i64 (hi : Int), .int .i64 (lo : Int), .agg (bcells (P.getD lo z32)).toArray, .func (.func 39) #[.slice a P.length c] #[]] wa fun e w' => e = .returned (.agg (bcells E).toArray) ∧ Below wa.heap.size wa w') :
    Calls Tryd.prog 39 #[.slice a P.length c, .int .i64 (lo : Int), .int .i64 (hi : Int)] w fun e w' => e = .returned (.agg (bcells E).toArray) ∧ Below w.heap.size w w' := by
  have HE := hid hE
  have I73 := hid i44
  have HC := hid hC
  have hk : lo < P.length := by omega
  have HF : Hid ((P.getD lo z32).length = 32) := pthAns_len hP lo 0 0
  have hg : P[lo] = P.getD lo z32 := by rw [List.getD_eq_getElem?_getD, List.getElem?_eq_getElem hk]; rfl
  obtain ⟨g, o, ea, hr⟩ := hS lo hk
  rw [hg] at hr
  generalize P.getD lo z32 = F at *
  have HS := hid hr
  have q1 : (lo : Int) < (hi : Int) := by omega
  have q2 : (hi : Int) ≤ (P.length : Int) := by omega
  have q3 : (P.length : Int) ≤ 4611686018427387904 := by omega
  rw [ea] at HC ⊢
  clear hP hl hlh hh hS hE hC hk hr hg ea
  go_enter Tryd.func39, Tryd.ntmps39
  go_upto_region 1 with (fail)
  refine wp_world fun wa HW => ?_
  have HRr : Hid (Row wa w.heap.size (bcells z32) 25) := by show Row _ _ _ _; rw [HW.out]; exact Row.new' _ _ _ _ _ rfl rfl
  have HBa : Hid (Below w.heap.size w wa) := by show Below _ _ _; rw [HW.out]; exact (Below.refl _ _).alloc (Nat.le_refl _) _
  clear HW
  have HSa : Hid (wa.rangeAt g (o + lo * 32) (bcells F)) := fun j v hv => cell_kept HBa.out (HS.out j v hv)
  have HCa := hid (HC.out wa HBa.out)
  go_wp2_with (first
    | (show wpList _ _ _ (Oper.mk (some 17) (.load 25 (.tmp 16)) _ _ _ _ :: _) _ _; refine wpList_load_mid rfl 25 (.tmp 16) rfl g (o + lo * 32) rfl (bcells F) _ HSa.out Tryd.underlying25 rfl (by rw [bcells_len, HF.out]; exact I73.out) ?_)
    | (go_at_call 43; refine Calls.mono HCa.out ?_; rintro e w2 ⟨rfl, hb2⟩
       have HB2 := hid hb2
       have HR2 : Hid (Row w2 w.heap.size (bcells z32) 25) := hid (HRr.out.kept hb2 HRr.out.lt)
       clear hb2)
    | (show wpList _ _ _ (Oper.mk none (.store 25 (.tmp 6) (.tmp 20)) _ _ _ _ :: _) _ _; refine HR2.out.wpStore' 25 (.tmp 6) (.tmp 20) (bcells E) rfl rfl rfl rfl (by rw [bcells_len, bcells_len, HE.out]; rfl) (bcells_one _) (by rw [bcells_len, HE.out]; exact I73.out) ?_; intro wz HZ))
  have R : Row wz w.heap.size (bcells E) 25 := by rw [HZ.out]; exact HR2.out.row _
  have hB : Below w.heap.size w wz := by rw [HZ.out]; exact Go.below_setRow (HBa.out.trans (HB2.out.mono HBa.out.size)) (Nat.le_refl _) _
  exact bodyPost_ret (v := .agg (bcells E).toArray) (R.result Tryd.results39 _ rfl _ Tryd.underlying25 rfl (by rw [bcells_len, HE.out]; exact I73.out)) rfl ⟨rfl, hB⟩
set_option maxHeartbeats 2000000 in
theorem row_none {a : Option Addr} {n c lo : Nat} {w : World} (hK : KTab w) (h2 : 2 ≤ w.heap.size) :
    Calls Tryd.prog 39 #[.slice a n c, .int .i64 (lo : Int), .int .i64 (lo : Int)] w fun e w' => e = .returned (.agg (bcells (sha [])).toArray) ∧ Below w.heap.size w w' := by
  have I73 := hid i44
  have HK := hid hK
  have H2 := hid h2
  clear hK h2
  go_enter Tryd.func39, Tryd.ntmps39
  go_upto_region 1 with (fail)
  refine wp_world fun wa HW => ?_
  have HRr : Hid (Row wa w.heap.size (bcells z32) 25) := by show Row _ _ _ _; rw [HW.out]; exact Row.new' _ _ _ _ _ rfl rfl
  have HBa : Hid (Below w.heap.size w wa) := by show Below _ _ _; rw [HW.out]; exact (Below.refl _ _).alloc (Nat.le_refl _) _
  clear HW
  have HE : Hid ((sha []).length = 32) := sha_len _
  have HCa : Hid (Calls Tryd.prog 37 #[.slice none 0 0] wa fun e w' => e = .returned (.agg (bcells (sha [])).toArray) ∧ Below wa.heap.size wa w') := of_any (ps := []) (fun k hk => absurd hk (Nat.not_lt_zero _)) (by simp) (HK.out.kept HBa.out) (Nat.le_trans H2.out HBa.out.size)
  obtain ⟨E, hE⟩ : ∃ E, sha [] = E := ⟨_, rfl⟩
  rw [hE] at HE HCa
  have HEE := hid hE
  clear hE
  go_wp2_with (first
    | (go_at_call 37; refine Calls.mono HCa.out ?_; rintro e w2 ⟨rfl, hb2⟩
       have HB2 := hid hb2
       have HR2 : Hid (Row w2 w.heap.size (bcells z32) 25) := hid (HRr.out.kept hb2 HRr.out.lt)
       clear hb2)
    | (show wpList _ _ _ (Oper.mk none (.store 25 (.tmp 6) (.tmp 10)) _ _ _ _ :: _) _ _; refine HR2.out.wpStore' 25 (.tmp 6) (.tmp 10) (bcells E) rfl rfl rfl rfl (by rw [bcells_len, bcells_len, HE.out]; rfl) (bcells_one _) (by rw [bcells_len, HE.out]; exact I73.out) ?_; intro wz HZ))
  have R : Row wz w.heap.size (bcells E) 25 := by rw [HZ.out]; exact HR2.out.row _
  have hB : Below w.heap.size w wz := by rw [HZ.out]; exact Go.below_setRow (HBa.out.trans (HB2.out.mono HBa.out.size)) (Nat.le_refl _) _
  exact bodyPost_ret (v := .agg (bcells E).toArray) (R.result Tryd.results39 _ rfl _ Tryd.underlying25 rfl (by rw [bcells_len, HE.out]; exact I73.out)) rfl ⟨by rw [HEE.out], hB⟩
theorem row_over {a : Option Addr} {c : Nat} {P : List (List (BitVec 8))} (hP : ∀ x ∈ P, x.length = 32) (hl : P.length ≤ 4611686018427387904) : ∀ (k lo hi : Nat) (w : World), lo ≤ hi → hi - lo ≤ k → hi ≤ P.length → SumsAt w a P → KTab w → 2 ≤ w.heap.size →
    Calls Tryd.prog 39 #[.slice a P.length c, .int .i64 (lo : Int), .int .i64 (hi : Int)] w fun e w' => e = .returned (.agg (bcells (overF P k lo hi)).toArray) ∧ Below w.heap.size w w'
  | 0, lo, hi, w, h1, h2, h3, hS, hK, hZ => by
    obtain rfl : lo = hi := by omega
    exact row_none hK hZ
  | k + 1, lo, hi, w, h1, h2, h3, hS, hK, hZ => by
    by_cases e : lo = hi
    · subst e
      unfold overF
      rw [if_pos rfl]
      exact row_none hK hZ
    · have hlen := overF_len hP (k + 1) lo hi h1
      unfold overF at hlen ⊢
      rw [if_neg e] at hlen ⊢
      refine row_step hP hl (by omega) h3 hS hlen fun wa hb => ?_
      have O : Oth1 39 (.slice a P.length c) wa.heap.size lo hi (fun _ => False) (fun (_ : Unit) w => RwI a P wa.heap.size w) (fun _ x y => overF P k x y) (fun _ _ _ => ()) (fun _ => 0) :=
        { eg := eg39
          call := fun w' _ x y hI _ hK' hZ' hB' hx hxy hy hd => (row_over hP hl k x y w' (by omega) (by omega) (by omega) hI.s hK' hZ').mono fun e w2 q => ⟨q.1, overF_len hP k x y (by omega), Fr.of_below q.2 (Nat.le_refl _), hI.fr (Fr.of_below q.2 (Nat.le_refl _))⟩
          keep := fun _ w1 w2 h f => h.fr f
          tick := fun _ _ _ => Nat.zero_le _
          len := fun _ x y _ _ _ _ => overF_len hP k x y (by omega) }
      refine (climb_any1 O (i := lo) (f := P.getD lo z32) (s := ()) (w := wa) (pthAns_len hP lo 0 0) id (fun _ h => h.elim) (Nat.le_refl _) (by omega) (by omega) (hK.kept hb) (Nat.le_trans hZ hb.size) rfl (sumsAt_rw (hS.kept hb) hP)).mono ?_
      rintro e w' ⟨rfl, hf, -⟩
      exact ⟨rfl, hf.none⟩
end Go.Proofs.YtaklbofbhanjgaaDoor
