import Derived.Test.YtdbdiebgjnofgaaNobody
namespace Go.Proofs.Ytdbdiebgjnofgaa
open Go.RowKit Go.Maps Go.Sort
set_option maxRecDepth 100000

theorem cell_same {w1 w2 : World} {N : Nat} (h : ∀ k, k < N → w2.heap[k]? = w1.heap[k]?) {ad : Addr} {v : Value} (hc : w1.cell? ad = some v) (hl : ad.block < N) : w2.cell? ad = some v := by
  rw [← hc]
  unfold World.cell?
  rw [h ad.block hl]
/-- Where the list lies that is left. -/
def RpIn (w : World) (r B N : Nat) (ps : List Pk) : Prop := ∃ a c, RpAt w r B ps a c ∧ ∀ k, (Value.slice a ps.length c).ownBlock = some k → k < N
theorem RpIn.same {w1 w2 : World} {r B N : Nat} {ps : List Pk} (h : RpIn w1 r B N ps) (hr : r < N) (hs : ∀ k, k < N → w2.heap[k]? = w1.heap[k]?) : RpIn w2 r B N ps := by
  obtain ⟨a, c, ⟨h1, h2, h3, h4⟩, h5⟩ := h
  refine ⟨a, c, ⟨h1.of_block (hs r hr), ?_, h3, h4⟩, h5⟩
  obtain ⟨g1, g2, g3 | ⟨g, o, cap, e, g3⟩⟩ := h2
  · exact ⟨g1, g2, .inl g3⟩
  · cases e
    exact ⟨g1, g2, .inr ⟨g, o, c, rfl, fun j u hj => cell_same hs (g3 j u hj) (h5 g rfl)⟩⟩
theorem RpAt.in_ {w : World} {r B : Nat} {ps : List Pk} {a : Option Addr} {c : Nat} (h : RpAt w r B ps a c) (hne : ps ≠ []) : RpIn w r B w.heap.size ps := by
  refine ⟨a, c, h, fun k hk => ?_⟩
  obtain ⟨g1, g2, ⟨g3, g4⟩ | ⟨g, o, cap, e, g3⟩⟩ := h.at_
  · injection g3 with e1 e2 e3
    rw [e1] at hk
    cases hk
  · cases e
    cases hk
    obtain ⟨p, ps, rfl⟩ : ∃ p q, ps = p :: q := by cases ps with | nil => exact absurd rfl hne | cons p q => exact ⟨p, q, rfl⟩
    exact World.block_lt_of_cell? w _ (g3 0 _ rfl)
theorem next4_cons {w : World} {s r B : Nat} {p : Pk} {ps : List Pk} {a : Option Addr} {c : Nat} (h : RpAt w r B (p :: ps) a c) (hs : Row w s [.iface 66 (.pointer (some ⟨r, 0, none⟩))] 33) (hne : s ≠ r) (V : Vw) :
    Calls Try.prog 11 #[.pointer (some ⟨s, 0, none⟩), V.val] w fun e w' => e = .returned (pkv (rpO (p :: ps))) ∧ Fr (fun k => k = r) w w' ∧ RpIn w' r B w.heap.size ps :=
  next_by (T := 66) (f := 69) (S := fun k => k = r) (R := fun w' => RpIn w' r B w.heap.size ps) (hs.cell 0 _ rfl) (fun _ => by rfl) eg69 (fun _ e => by rw [e]; exact h.row.lt) (fun w1 w2 hh hR => hR.same h.row.lt hh) hne
    (fun w' hb => (rpnext_cons (h.kept hb) V).mono (by
      rintro e w2 ⟨rfl, hf, a', c', h', hk⟩
      refine ⟨rfl, hf, a', c', h', fun k hk' => ?_⟩
      obtain ⟨o, rfl⟩ := hk k hk'
      obtain ⟨g1, g2, ⟨g3, _⟩ | ⟨g, o2, cap, e, g3⟩⟩ := h.at_
      · cases g3
      · cases e; exact World.block_lt_of_cell? w _ (g3 0 _ rfl)))
theorem next4_nil {w : World} {s r B : Nat} {a : Option Addr} {c : Nat} (h : RpAt w r B [] a c) (hs : Row w s [.iface 66 (.pointer (some ⟨r, 0, none⟩))] 33) (V : Vw) :
    Calls Try.prog 11 #[.pointer (some ⟨s, 0, none⟩), V.val] w fun e w' => e = .returned (pkv none) ∧ Below w.heap.size w w' :=
  (next_by (T := 66) (f := 69) (S := fun _ => False) (R := fun _ => True) (hs.cell 0 _ rfl) (fun _ => by rfl) eg69 (fun _ e => e.elim) (fun _ _ _ _ => trivial) (fun e => e)
    (fun w' hb => (rpnext_nil (h.kept hb) V).mono (by rintro e w2 ⟨rfl, hb2⟩; exact ⟨rfl, fr0 hb2, trivial⟩))).mono (by rintro e w2 ⟨rfl, hf, _⟩; exact ⟨rfl, below_fr hf (fun _ e => e)⟩)
/-- What the law keeps: the view's box, the scheduler, what is left of its list. -/
structure RS (w wr : World) (s r : Nat) (V : Vw) (ps : List Pk) : Prop where
  b : Below w.heap.size w wr
  bx : Row wr w.heap.size V.cells 28
  bs : Row wr s [.iface 66 (.pointer (some ⟨r, 0, none⟩))] 33
  br : ∃ a c, RpAt wr r w.heap.size ps a c
  ne : s ≠ r
  rg : w.heap.size < r
theorem RS.kept {w wr w' : World} {s r : Nat} {V : Vw} {ps : List Pk} (h : RS w wr s r V ps) (hb : Below wr.heap.size wr w') : RS w w' s r V ps := by
  obtain ⟨a, c, hr⟩ := h.br
  exact ⟨h.b.trans (hb.mono h.b.size), h.bx.kept hb h.bx.lt, h.bs.kept hb h.bs.lt, ⟨a, c, hr.kept hb⟩, h.ne, h.rg⟩
theorem RS.fr {w wr w' : World} {s r : Nat} {V : Vw} {ps ps' : List Pk} {N : Nat} (h : RS w wr s r V ps) (hf : Fr (fun k => k = r) wr w') (hr : RpIn w' r w.heap.size N ps') : RS w w' s r V ps' := by
  obtain ⟨a, c, hr, _⟩ := hr
  refine ⟨h.b.trans (hf.below (fun x hx => by subst hx; exact Nat.le_of_lt h.rg) h.b.size), hf.row h.bx (fun e => by have := h.rg; omega), hf.row h.bs h.ne, ⟨a, c, hr⟩, h.ne, h.rg⟩
theorem RS.left {w wr : World} {s r : Nat} {V : Vw} {ps : List Pk} (h : RS w wr s r V ps) : Calls Try.prog 10 #[.pointer (some ⟨s, 0, none⟩)] wr fun e w' => e = .returned (.int .i64 ps.length) ∧ RS w w' s r V ps := by
  obtain ⟨a, c, hr⟩ := h.br
  exact (left4_any hr h.bs).mono (by rintro e w' ⟨rfl, hb⟩; exact ⟨rfl, h.kept hb⟩)
theorem RS.next {w wr : World} {s r : Nat} {V : Vw} {p : Pk} {ps : List Pk} (h : RS w wr s r V (p :: ps)) : Calls Try.prog 11 #[.pointer (some ⟨s, 0, none⟩), V.val] wr fun e w' => e = .returned (pkv (rpO (p :: ps))) ∧ RS w w' s r V ps := by
  obtain ⟨a, c, hr⟩ := h.br
  exact (next4_cons hr h.bs h.ne V).mono (by rintro e w' ⟨rfl, hf, hi⟩; exact ⟨rfl, h.fr hf hi⟩)
theorem RS.nextNil {w wr : World} {s r : Nat} {V : Vw} (h : RS w wr s r V []) : Calls Try.prog 11 #[.pointer (some ⟨s, 0, none⟩), V.val] wr fun e w' => e = .returned (pkv none) ∧ RS w w' s r V [] := by
  obtain ⟨a, c, hr⟩ := h.br
  exact (next4_nil hr h.bs V).mono (by rintro e w' ⟨rfl, hb⟩; exact ⟨rfl, h.kept hb⟩)
/-- Decisions as they came in. -/
def PksAt (w : World) (a : Option Addr) (L : List Pk) : Prop := ∀ k (h : k < L.length), ∃ g o, a = some ⟨g, o, none⟩ ∧ ∀ j u, L[k].cells[j]? = some u → w.cell? ⟨g, o + k * 3 + j, none⟩ = some u
theorem PksAt.kept {w w' : World} {a : Option Addr} {L : List Pk} (h : PksAt w a L) (hb : Below w.heap.size w w') : PksAt w' a L := fun i hi => by
  obtain ⟨g, o, e, h1⟩ := h i hi
  exact ⟨g, o, e, fun j v hv => cell_kept hb (h1 j v hv)⟩
set_option maxHeartbeats 4000000 in
theorem replays_any {w : World} {a : Option Addr} {cap : Nat} {L : List Pk} (hA : PksAt w a L) (hS : SrcAt w 3 (.slice a L.length cap) L.length (pcells L)) (hl : L.length * 24 ≤ 140737488355328) (V : Vw) :
    Calls Try.prog 6 #[.slice a L.length cap, V.val] w fun e w' => e = .returned (.bool true) ∧ Below w.heap.size w w' := by
  obtain ⟨va, vcap, vL, has, want, edge, mss⟩ := V
  have HA := hid hA
  have HSRC := hid hS
  have hll : (L.length : Int) ≤ 5864062014805 := by omega
  generalize hN : L.length = N at *
  have HN := hid hN
  have HL := hid hl
  clear hA hS hN hl
  go_enter Try.func6, Try.ntmps6
  go_upto_region 1 with fail
  refine wp_world fun W HW => ?_
  have HB0 : Hid (Below w.heap.size w W) := by show Below _ _ _; rw [HW.out]; exact (Below.refl _ _).alloc (Nat.le_refl _) _
  have HX0 : Hid (Row W w.heap.size (Vw.cells ⟨va, vcap, vL, has, want, edge, mss⟩) 28) := by show Row _ _ _ _; rw [HW.out]; exact Row.new _ _ _
  clear HW
  have HNEW := hid (new4_any (w := W) (ps := L) (a2 := a) (c2 := cap) (by rw [HN.out]; exact HSRC.out.kept HB0.out) (by rw [HN.out]; exact HL.out) none 0 0)
  rw [HN.out] at HNEW
  go_upto_region 4 with (go_at_call 9; refine HNEW.out.mono ?_; rintro e w1 ⟨hb, s, r, rfl, hs, hr, hrr, hne, hp⟩; have HRS : Hid (RS w w1 s r ⟨va, vcap, vL, has, want, edge, mss⟩ L) := ⟨HB0.out.trans (hb.mono HB0.out.size), HX0.out.kept hb HX0.out.lt, hr, (by obtain ⟨a', c', hp⟩ := hp; exact ⟨a', c', hp.base HB0.out.size⟩), Ne.symm hne, (by have := HX0.out.lt; omega)⟩; clear HNEW hb hs hr hrr hne hp)
  go_wp2
  go_loopw [6, 7, 8] (fun s6 _ _ wr => ∃ i : Nat, i ≤ N ∧ s6 = .int .i64 i ∧ Hid (RS w wr s r ⟨va, vcap, vL, has, want, edge, mss⟩ (L.drop i))) (fun s _ _ _ => N - (intOf s).toNat)
  case atStart => exact ⟨0, Nat.zero_le _, rfl, by rw [List.drop_zero]; exact HRS⟩
  case round =>
    obtain ⟨i, hi, rfl, HR⟩ := hrel
    by_cases hlt : i < N
    · have hil : i < L.length := by rw [HN.out]; exact hlt
      have hii : (i : Int) < N := by omega
      rw [List.drop_eq_getElem_cons hil] at HR
      have HLF := hid HR.out.left
      rw [List.length_cons, List.length_drop, HN.out, show N - (i + 1) + 1 = N - i by omega, show ((N - i : Nat) : Int) = (N : Int) - i by omega] at HLF
      obtain ⟨P, hP⟩ : ∃ P, L[i] = P := ⟨_, rfl⟩
      rw [hP] at HR HLF
      go_upto_region 9 with (go_at_call 10; refine HLF.out.mono ?_; rintro e w2 ⟨rfl, hr2⟩; have HR2 := hid hr2; clear HLF HR hr2)
      have hnx := HR2.out.next
      have b0 := HR2.out.bx.cell 0 _ rfl
      have b1 := HR2.out.bx.cell 1 _ rfl
      have b2 := HR2.out.bx.cell 2 _ rfl
      have b3 := HR2.out.bx.cell 3 _ rfl
      have b4 := HR2.out.bx.cell 4 _ rfl
      have b5 := HR2.out.bx.cell 5 _ rfl
      have b6 := HR2.out.bx.cell 6 _ rfl
      have b7 := HR2.out.bx.cell 7 _ rfl
      have b8 := HR2.out.bx.cell 8 _ rfl
      simp only at b0 b1 b2 b3 b4 b5 b6 b7 b8
      obtain ⟨g, o, rfl, hq⟩ := HA.out i hil
      rw [hP] at hq
      have HQ : Hid (∀ W3 : World, Below w.heap.size w W3 → ∀ j u, P.cells[j]? = some u → W3.cell? ⟨g, o + i * 3 + j, none⟩ = some u) := fun W3 hb j u hj => cell_kept hb (hq j u hj)
      have hrp : rpO (P :: L.drop (i + 1)) = if P.len < 0 then none else some P := rfl
      rw [hrp] at hnx
      simp only [Vw.val, Vw.cells] at hnx
      clear hrp hq hP
      by_cases hl0 : P.len < 0
      · rw [if_pos hl0] at hnx
        simp only [pkv] at hnx
        have HNX := hid hnx
        clear hnx
        go_upto_region 10 with (go_at_call 11; refine HNX.out.mono ?_; rintro e w3 ⟨rfl, hr3⟩; have HR3 := hid hr3; clear hr3 HNX HR2 b0 b1 b2 b3 b4 b5 b6 b7 b8)
        have HRp : Hid (Row (w3.alloc (.cells #[.int .i64 0, .int .u64 0, .int .i64 0] 36)) w3.heap.size [.int .i64 0, .int .u64 0, .int .i64 0] 36) := Row.new _ _ _
        have HR4 : Hid (RS w (w3.alloc (.cells #[.int .i64 0, .int .u64 0, .int .i64 0] 36)) s r ⟨va, vcap, vL, has, want, edge, mss⟩ (L.drop (i + 1))) := HR3.out.kept ((Below.refl _ _).alloc (Nat.le_refl _) _)
        obtain ⟨z, hz⟩ : ∃ z, z = w3.heap.size := ⟨_, rfl⟩
        rw [← hz] at HRp ⊢
        clear hz HR3
        generalize (w3.alloc (.cells #[.int .i64 0, .int .u64 0, .int .i64 0] 36)) = W4 at *
        have p0 := cell_regrown (HRp.out.cell 0 _ rfl)
        have p1 := cell_regrown (HRp.out.cell 1 _ rfl)
        have p2 := cell_regrown (HRp.out.cell 2 _ rfl)
        have q0 : ∀ d os, (grow (redrawn W4 d) os).cell? ⟨g, o + i * 3, none⟩ = some (.int .i64 P.path) := cell_regrown (HQ.out W4 HR4.out.b 0 _ rfl)
        have q1 := cell_regrown (HQ.out W4 HR4.out.b 1 _ rfl)
        have q2 := cell_regrown (HQ.out W4 HR4.out.b 2 _ rfl)
        have hl2 : decide (0 ≤ P.len) = false := by simpa using hl0
        have hl3 : ¬ (0 : Int) ≤ P.len := by omega
        refine wp_region_quiet_below (by kernel_rfl) (by decide +kernel) ?_
        repeat (go_big_quiet_step (fail))
        refine wpQuiet_nil ?_
        intro _ hw'
        obtain ⟨⟨dq, osq⟩, hw''⟩ := hw'
        subst hw''
        go_wp2_with fail
        go_roundw
        case rel => exact ⟨i + 1, hlt, by go_num, hid (HR4.out.kept (below_regrown W4 dq osq))⟩
        case measure => simp [intOf]; omega
      · rw [if_neg hl0] at hnx
        simp only [pkv, Pk.cells] at hnx
        have HNX := hid hnx
        clear hnx
        go_upto_region 10 with (go_at_call 11; refine HNX.out.mono ?_; rintro e w3 ⟨rfl, hr3⟩; have HR3 := hid hr3; clear hr3 HNX HR2 b0 b1 b2 b3 b4 b5 b6 b7 b8)
        have HRp : Hid (Row (w3.alloc (.cells #[.int .i64 P.path, .int .u64 P.off, .int .i64 P.len] 36)) w3.heap.size [.int .i64 P.path, .int .u64 P.off, .int .i64 P.len] 36) := Row.new _ _ _
        have HR4 : Hid (RS w (w3.alloc (.cells #[.int .i64 P.path, .int .u64 P.off, .int .i64 P.len] 36)) s r ⟨va, vcap, vL, has, want, edge, mss⟩ (L.drop (i + 1))) := HR3.out.kept ((Below.refl _ _).alloc (Nat.le_refl _) _)
        obtain ⟨z, hz⟩ : ∃ z, z = w3.heap.size := ⟨_, rfl⟩
        rw [← hz] at HRp ⊢
        clear hz HR3
        generalize (w3.alloc (.cells #[.int .i64 P.path, .int .u64 P.off, .int .i64 P.len] 36)) = W4 at *
        have p0 := cell_regrown (HRp.out.cell 0 _ rfl)
        have p1 := cell_regrown (HRp.out.cell 1 _ rfl)
        have p2 := cell_regrown (HRp.out.cell 2 _ rfl)
        have q0 : ∀ d os, (grow (redrawn W4 d) os).cell? ⟨g, o + i * 3, none⟩ = some (.int .i64 P.path) := cell_regrown (HQ.out W4 HR4.out.b 0 _ rfl)
        have q1 := cell_regrown (HQ.out W4 HR4.out.b 1 _ rfl)
        have q2 := cell_regrown (HQ.out W4 HR4.out.b 2 _ rfl)
        have hl1 : (0 : Int) ≤ P.len := by omega
        have hl2 : decide (0 ≤ P.len) = true := by simpa using hl1
        refine wp_region_quiet_below (by kernel_rfl) (by decide +kernel) ?_
        repeat (go_big_quiet_step (fail))
        refine wpQuiet_nil ?_
        intro _ hw'
        obtain ⟨⟨dq, osq⟩, hw''⟩ := hw'
        subst hw''
        go_wp2_with fail
        go_roundw
        case rel => exact ⟨i + 1, hlt, by go_num, hid (HR4.out.kept (below_regrown W4 dq osq))⟩
        case measure => simp [intOf]; omega
    · obtain rfl : i = N := by omega
      rw [List.drop_eq_nil_of_le (by rw [HN.out]; exact Nat.le_refl _)] at HR
      clear hlt
      have hnx := HR.out.nextNil
      simp only [Vw.val, Vw.cells, pkv] at hnx
      have HNX := hid hnx
      have b0 := HR.out.bx.cell 0 _ rfl
      have b1 := HR.out.bx.cell 1 _ rfl
      have b2 := HR.out.bx.cell 2 _ rfl
      have b3 := HR.out.bx.cell 3 _ rfl
      have b4 := HR.out.bx.cell 4 _ rfl
      have b5 := HR.out.bx.cell 5 _ rfl
      have b6 := HR.out.bx.cell 6 _ rfl
      have b7 := HR.out.bx.cell 7 _ rfl
      have b8 := HR.out.bx.cell 8 _ rfl
      simp only at b0 b1 b2 b3 b4 b5 b6 b7 b8
      clear hnx
      go_wp2_with (first
        | (go_at_call 11; refine HNX.out.mono ?_; rintro e w3 ⟨rfl, hr3⟩; have HR4 := hid (hr3.kept ((Below.refl _ _).alloc (Nat.le_refl _) (.cells #[.int .i64 0, .int .u64 0, .int .i64 0] 36))); have HLF := hid HR4.out.left; clear hr3 HNX HR b0 b1 b2 b3 b4 b5 b6 b7 b8)
        | (go_at_call 10; refine HLF.out.mono ?_; rintro e w5 ⟨rfl, hr5⟩; have HB5 := hid hr5.b; have HAL := hid (alive_any w5); clear hr5 HLF)
        | (go_at_call 12; refine HAL.out.mono ?_; rintro e w6 ⟨rfl, hb6⟩; have HB6 := hid (HB5.out.trans (hb6.mono HB5.out.size)); clear hb6 HAL))
      go_ret
      exact ⟨rfl, HB6.out⟩
end Go.Proofs.Ytdbdiebgjnofgaa
