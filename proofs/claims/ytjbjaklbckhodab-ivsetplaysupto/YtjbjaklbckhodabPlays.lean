import Derived.Test.YtjbjaklbckhodabPl1
import Derived.StillTailTactics
namespace Go.Proofs.Ytjbjaklbckhodab
open Go.RowKit
set_option maxRecDepth 100000

theorem cells_nil (w : World) : Cells w none [] := ⟨fun h => absurd rfl h⟩
theorem grown_set (w : World) (g j : Nat) (u : Value) : w.grownBy (w.setCell ⟨g, j, none⟩ u) (some g) :=
  ⟨rfl, rfl, rfl, (KeepsWalks.setCell w _ u).size, fun k _ hk => Below.heap_setCell _ _ _ k (fun e => hk (by rw [e]))⟩
theorem set_grown {w w' : World} {p g : Nat} {v : Value} {L : List Rg} (S : SetAt w p v L) (hg : w.grownBy w' (some g)) (h1 : p ≠ g) (h2 : ∀ x, v.ownBlock = some x → x ≠ g) : SetAt w' p v L := by
  refine ⟨by rw [hg.block p (Array.getElem?_eq_some_iff.1 S.hp).1 (by simpa using h1)]; exact S.hp, ?_⟩
  exact own_kept S.own hg (fun x hx e => h2 x hx (by simpa using e.symm))
/-- A cell of a row that is no set and no list is written. -/
theorem Sp.put {B : Nat} {w : World} {s : Sp} (S : s.At B w) {g : Nat} {cs : List Value} {t : TypeId} (R : Row w g cs t) (h1 : t ≠ 55) (h2 : t ≠ 25) (j : Nat) (u : Value) : s.At B (w.setCell ⟨g, j, none⟩ u) := by
  have hp : s.p ≠ g := by
    rintro rfl
    have := S.set.hp
    rw [R.at_] at this
    simp at this
    exact h1 this.2
  have hr : ∀ {B n : Nat} {v : Value} {xs : List Value}, w.ownsRow B 25 2 v n xs → ∀ x, v.ownBlock = some x → x ≠ g := by
    intro B n v xs ho x hx
    rintro rfl
    rcases ho.2 with ⟨hv, _⟩ | ⟨g', cap, cur, hv, _, h3, _⟩
    · rw [hv] at hx; simp [Value.ownBlock] at hx
    · rw [hv] at hx
      simp only [Value.ownBlock, Option.some.injEq] at hx
      subst hx
      rw [R.at_] at h3
      simp at h3
      exact h2 h3.2
  exact ⟨set_grown S.set (grown_set w g j u) hp (hr S.set.own), S.fit, own_kept S.row (grown_set w g j u) (fun x hx e => hr S.row x hx (by simpa using e.symm)), S.at_, S.vrow, S.apart⟩
theorem Two.put {B : Nat} {w : World} {s t : Sp} (h : Two B w s t) {g : Nat} {cs : List Value} {ty : TypeId} (R : Row w g cs ty) (h1 : ty ≠ 55) (h2 : ty ≠ 25) (j : Nat) (u : Value) : Two B (w.setCell ⟨g, j, none⟩ u) s t := ⟨Sp.put h.fs R h1 h2 j u, Sp.put h.ft R h1 h2 j u, h.ne, h.vs, h.vt⟩

set_option maxHeartbeats 4000000 in
theorem plays_any {w : World} {a sa : Option Addr} {cap sc : Nat} {L : List Rg} {Z : List OpV} (C : Cells w a L) (hO : OpsAt w sa Z) (hok : ∀ o ∈ Z, o.Ok) (hf : L.length + Z.length ≤ 1048576) (hw : ∀ r ∈ L, 0 ≤ r.1 ∧ r.2 ≤ 18446744073709551615) :
    Calls Try.prog 5 #[.slice a L.length cap, .slice sa Z.length sc] w fun e w' => e = .returned (.bool true) ∧ Below w.heap.size w w' := by
  have hN := new_any sort_any (cap := cap) C (by omega) hw
  have HC := hid C
  have HW := hid hw
  have HO := hid hO
  have HOK := hid hok
  clear C hO hok hw
  go_enter Try.func5, Try.ntmps5
  go_wp2_with fail
  refine hN.mono ?_
  rintro e w1 ⟨p0, rfl, v0, L', hP, hO1, hb1⟩
  obtain ⟨hF, hL⟩ := addAll_fit L' (fun r hr => HW.out r (hP.mem_iff.1 hr)) L'.length (Nat.le_refl _)
  rw [List.take_length, hP.length_eq] at hL
  rw [List.take_length] at hF
  have HEQ := hid (fun P => new_of (P := P) HW.out hP)
  generalize addAll L' = M at *
  have HF := hid hF
  have HO1 := hid hO1
  have HB1 := hid hb1
  have hN2 := new_any sort_any (w := w1) (cap := 0) (L := []) (cells_nil w1) (by simp) (fun r h => by simp at h)
  rw [show ([] : List Rg).length = 0 from rfl] at hN2
  clear hP hF hO1 hb1 hN
  go_wp2_with fail
  refine hN2.mono ?_
  rintro e w2 ⟨p1, rfl, v1, L2, hP2, hO2, hb2⟩
  obtain rfl : L2 = [] := List.Perm.eq_nil hP2
  have HO2 := hid hO2
  have HO12 := hid (HO1.out.kept hb2)
  have HB2 := hid (HB1.out.trans (hb2.mono HB1.out.size))
  have HS1 := hid HO1.out.set.lt
  have HSZ1 := hid HB1.out.size
  clear hP2 hO2 hb2 hN2
  -- THE REST
  have hCa := HC.out.kept (HB2.out.trans ((below_box w2 (.cells #[.pointer (some ⟨p0, 0, none⟩), .pointer (some ⟨p1, 0, none⟩)] 43)).mono HB2.out.size))
  have hOF := of_any sorted_said (cap := cap) hCa (by omega) HW.out
  have hbA := below_box w2 (.cells #[.pointer (some ⟨p0, 0, none⟩), .pointer (some ⟨p1, 0, none⟩)] 43)
  have HRA : Hid (Row (w2.alloc (.cells #[.pointer (some ⟨p0, 0, none⟩), .pointer (some ⟨p1, 0, none⟩)] 43)) w2.heap.size [.pointer (some ⟨p0, 0, none⟩), .pointer (some ⟨p1, 0, none⟩)] 43) := Row.new' _ _ _ _ _ rfl rfl
  have HBA := hid hbA
  have hszA : (w2.alloc (.cells #[.pointer (some ⟨p0, 0, none⟩), .pointer (some ⟨p1, 0, none⟩)] 43)).heap.size = w2.heap.size + 1 := by simp
  clear hCa hbA
  go_wp2_with fail
  refine hOF.mono ?_
  rintro e w3 ⟨v3, P, rfl, hP, hp, ho3, hb3⟩
  rw [HEQ.out P hP hp] at ho3
  obtain ⟨a3, k3, rfl, hC3⟩ := own_cells ho3
  have HB3 := hid ((HB2.out.trans (HBA.out.mono HB2.out.size)).trans (hb3.mono (by have := HB2.out.size; omega)))
  have HRA3 := hid (HRA.out.kept hb3 HRA.out.lt)
  have HB23 : Hid (Below w2.heap.size w2 w3) := HBA.out.trans (hb3.mono (by omega))
  have hb4 := below_box w3 (.cells #[.slice a3 M.length k3, .slice none 0 0] 44)
  have HRL : Hid (Row (w3.alloc (.cells #[.slice a3 M.length k3, .slice none 0 0] 44)) w3.heap.size [.slice a3 M.length k3, .slice none 0 0] 44) := Row.new' _ _ _ _ _ rfl rfl
  have HRA4 := hid (HRA3.out.kept hb4 HRA3.out.lt)
  have HB4 := hid (HB3.out.trans (hb4.mono HB3.out.size))
  have HTW : Hid (Two w.heap.size (w3.alloc (.cells #[.slice a3 M.length k3, .slice none 0 0] 44)) ⟨p0, v0, a3, k3, M⟩ ⟨p1, v1, none, 0, []⟩) := by
    have hB24 : Below w2.heap.size w2 (w3.alloc (.cells #[.slice a3 M.length k3, .slice none 0 0] 44)) := HB23.out.trans (hb4.mono HB23.out.size)
    have hr3 := own_below ho3 hb4
    have hz1 := HSZ1.out
    have hge : ∀ x, (Value.slice a3 M.length k3).ownBlock = some x → w2.heap.size + 1 ≤ x := fun x hx => by have := own_ge ho3 hx; omega
    have h2l := HO2.out.set.lt
    refine ⟨⟨(HO12.out.set).kept hB24, HF.out, owns_mono hr3 (by have := HB2.out.size; omega), HO12.out.at_, HO12.out.row, fun x hx e => ?_⟩, ⟨HO2.out.set.kept hB24, fit_nil, World.ownsRow_nil _ _ _ _, Nat.le_trans hz1 HO2.out.at_, fun x hx => Nat.le_trans hz1 (HO2.out.row x hx), fun x hx e => by simp [Value.ownBlock] at e⟩, ?_, fun x hx => ⟨fun e => ?_, fun e => by simp [Sp.lst, Value.ownBlock] at e⟩, fun x hx e => ?_⟩
    · have := hge x e; have := HO12.out.set.lt.2 x hx; omega
    · have := HS1.out.1; have := HO2.out.at_; simp only; omega
    · have := HS1.out.2 x hx; have := HO2.out.row x e; omega
    · have := hge x e; have := h2l.2 x hx; omega
  have HGA0 := hid HB2.out.size
  have HGL0 := hid HB3.out.size
  clear hP hp ho3 hb3 hC3 hb4 hOF HEQ HRA HRA3 HBA HB23 HB3 HB2 HO12 HO1 HO2 HB1 HS1 HSZ1 hszA
  obtain ⟨gA, hgA⟩ : ∃ gA, gA = w2.heap.size := ⟨_, rfl⟩
  rw [← hgA] at HRA4 HGA0 ⊢
  clear hgA
  have HRA5 : Hid (Row (w3.alloc (.cells #[.slice a3 M.length k3, .slice none 0 0] 44)) gA [.pointer (some ⟨p0, 0, none⟩), .pointer (some ⟨p1, 0, none⟩)] 43) := HRA4.out
  have cA0 := HRA5.out.cell 0 _ rfl
  have cA1 := HRA5.out.cell 1 _ rfl
  clear HRA4
  have HGA : Hid (w.heap.size ≤ gA) := HGA0.out
  have HGL : Hid (w.heap.size ≤ w3.heap.size) := HGL0.out
  go_wp2_with fail
  obtain ⟨gL, hgL⟩ : ∃ gL, gL = w3.heap.size := ⟨_, rfl⟩
  rw [← hgL] at HRL HGL ⊢
  clear hgL
  have HLM := hid hL
  clear cA0 cA1
  go_loopw [30] (fun i wr => ∃ (k : Nat) (s t : Sp), k ≤ Z.length ∧ i = .int .i64 k ∧ Row wr gA [.pointer (some ⟨s.p, 0, none⟩), .pointer (some ⟨t.p, 0, none⟩)] 43 ∧ Row wr gL [s.lst, t.lst] 44 ∧ Two w.heap.size wr s t ∧ s.L.length ≤ L.length + k ∧ t.L.length ≤ L.length + k ∧ Below w.heap.size w wr) (fun i _ => Z.length - (intOf i).toNat)
  case atStart => exact ⟨0, ⟨p0, v0, a3, k3, M⟩, ⟨p1, v1, none, 0, []⟩, Nat.zero_le _, rfl, HRA5.out, HRL.out, HTW.out, by simp only; omega, by simp, HB4.out⟩
  case round =>
    obtain ⟨k, s, t, hk, rfl, hRA, hRL, hTw, hls, hlt', hbr⟩ := hrel
    have HRA0 := hid hRA
    have HRL0 := hid hRL
    have HTW0 := hid hTw
    have HBR := hid hbr
    clear hRA hRL hTw hbr HRA5 HRL HTW HB4
    by_cases hlt : k < Z.length
    · have hki : (k : Int) < (Z.length : Int) := by omega
      obtain ⟨ob, off, rfl, o0, o1, o2, o3, o4⟩ := HO.out.row k hlt
      have HOX := hid (HOK.out Z[k] (List.getElem_mem hlt))
      have b0 := cell_kept HBR.out o0
      have b1 := cell_kept HBR.out o1
      have b2 := cell_kept HBR.out o2
      have b3 := cell_kept HBR.out o3
      have b4 := cell_kept HBR.out o4
      clear o0 o1 o2 o3 o4
      generalize Z[k] = o at *
      obtain ⟨ok, ot, ⟨rl, rh⟩, ox⟩ := o
      simp only at b0 b1 b2 b3 b4 HOX
      have hbx := below_box wr (.cells #[.int .i64 ok, .bool ot, .int .u64 rl, .int .u64 rh, .int .u64 ox] 46)
      have HRB1 : Hid (Row (wr.alloc (.cells #[.int .i64 ok, .bool ot, .int .u64 rl, .int .u64 rh, .int .u64 ox] 46)) wr.heap.size [.int .i64 ok, .bool ot, .int .u64 rl, .int .u64 rh, .int .u64 ox] 46) := Row.new' _ _ _ _ _ rfl rfl
      have HRA1 := hid (HRA0.out.kept hbx HRA0.out.lt)
      have HRL1 := hid (HRL0.out.kept hbx HRL0.out.lt)
      have HTW1 := hid (Two.kept HTW0.out hbx)
      have HBQ := hid (HBR.out.trans (hbx.mono HBR.out.size))
      clear hbx HRA0 HRL0 HTW0 HBR
      go_upto_region 8 with fail
      obtain ⟨wq, hwq⟩ : ∃ wq, wr.alloc (.cells #[.int .i64 ok, .bool ot, .int .u64 rl, .int .u64 rh, .int .u64 ox] 46) = wq := ⟨_, rfl⟩
      rw [hwq] at HRB1 HRA1 HRL1 HTW1 HBQ ⊢
      clear hwq b0 b1 b2 b3 b4
      obtain ⟨gB, hgB⟩ : ∃ gB, gB = wr.heap.size := ⟨_, rfl⟩
      rw [← hgB] at HRB1 ⊢
      clear hgB
      have b0 := HRB1.out.cell 0 _ rfl
      have b1 := HRB1.out.cell 1 _ rfl
      have b2 := HRB1.out.cell 2 _ rfl
      have b3 := HRB1.out.cell 3 _ rfl
      have b4 := HRB1.out.cell 4 _ rfl
      cases ot
      · have hcA := HRA1.out.cell 0 _ rfl
        have hcL := HRL1.out.cell 0 _ rfl
        have HTD := hid (Two.kept (HTW1.out) (below_drewN (Below.refl wq.heap.size wq) 1))
        have HRAd := hid (HRA1.out.drew 1)
        have HRLd := hid (HRL1.out.drew 1)
        have HRBd := hid (HRB1.out.drew 1)
        have HBd := hid (HBQ.out.trans ((below_drewN (Below.refl wq.heap.size wq) 1).mono HBQ.out.size))
        have hs' : s.L.length ≤ 2097152 := by omega
        have hlst : s.lst = .slice s.b s.L.length s.c := rfl
        rw [hlst] at hcL
        clear HTW1 HRA1 HRL1 HRB1 HBQ
        go_upto_region 11 with fail
        go_region_held3 (fun w' => w'.cell? ⟨gA, 0, none⟩ = some (.pointer (some ⟨s.p, 0, none⟩)) ∧ w'.cell? ⟨gL, 0, none⟩ = some (.slice s.b s.L.length s.c) ∧ w'.cell? ⟨gB, 0, none⟩ = some (.int .i64 ok) ∧ w'.cell? ⟨gB, 1, none⟩ = some (.bool false) ∧ w'.cell? ⟨gB, 2, none⟩ = some (.int .u64 rl) ∧ w'.cell? ⟨gB, 3, none⟩ = some (.int .u64 rh) ∧ w'.cell? ⟨gB, 4, none⟩ = some (.int .u64 ox)) (go_keep)
          (first
            | (go_at_call 16; refine (do_any HTD.out.fs hs' ok false rl rh ox HOX.out).mono ?_; rintro e w5 hD; obtain ⟨p', v', b', c', L5, rfl, hS5, hM5, hl5⟩ := hD; have HRA5 := hid (Moved.row HTD.out.fs hM5 HRAd.out (by decide) (by decide)); have HRL5 := hid (Moved.row HTD.out.fs hM5 HRLd.out (by decide) (by decide)); have HRB5 := hid (Moved.row HTD.out.fs hM5 HRBd.out (by decide) (by decide)); have HT5 := hid (Two.move (s' := ⟨p', v', b', c', L5⟩) HTD.out hS5 hM5); have HB5 := hid (HBd.out.trans (Moved.below HTD.out.fs hM5)); have HL5 := hid hl5; have x0 := HRA5.out.cell 0 _ rfl; have x1 := HRL5.out.cell 0 _ rfl; have y0 := HRB5.out.cell 0 _ rfl; have y1 := HRB5.out.cell 1 _ rfl; have y2 := HRB5.out.cell 2 _ rfl; have y3 := HRB5.out.cell 3 _ rfl; have y4 := HRB5.out.cell 4 _ rfl; rw [hlst] at x1; clear hS5 hM5 hl5))
        have z0 := HRA5.out.frozen 0
        have hgn : gL ≠ gA := fun e => by have h1 := HRA5.out.at_; have h2 := HRL5.out.at_; rw [e, h1] at h2; simp at h2
        have HRA6 := hid (HRA5.out.set 0 (.pointer (some ⟨p', 0, none⟩)))
        have HRL6 := hid (HRL5.out.setOther ⟨gA, 0, none⟩ hgn (.pointer (some ⟨p', 0, none⟩)))
        have HT6a := hid (Two.put HT5.out HRA5.out (by decide) (by decide) 0 (.pointer (some ⟨p', 0, none⟩)))
        have q1 := HRL6.out.cell 0 _ rfl
        rw [hlst] at q1
        have z1 := HRL6.out.frozen 0
        have HRA7 := hid (HRA6.out.setOther ⟨gL, 0, none⟩ (Ne.symm hgn) (.slice b' L5.length c'))
        have HRL7 := hid (HRL6.out.set 0 (.slice b' L5.length c'))
        have HT6 := hid (Two.put HT6a.out HRL6.out (by decide) (by decide) 0 (.slice b' L5.length c'))
        have HB7 := hid ((HB5.out.setCell (p := ⟨gA, 0, none⟩) HGA.out (.pointer (some ⟨p', 0, none⟩))).setCell (p := ⟨gL, 0, none⟩) HGL.out (.slice b' L5.length c'))
        clear HT6a HRA6 HRL6 HRA5 HRL5 HRB5 HT5 HB5 HTD HRAd HRLd HRBd HBd y0 y1 y2 y3 y4 hcA hcL b0 b1 b2 b3 b4
        go_wp2_with fail
        go_roundw
        case rel => exact ⟨k + 1, ⟨p', v', b', c', L5⟩, t, hlt, by go_num, HRA7.out, HRL7.out, HT6.out, by have := HL5.out; simp only; omega, by omega, HB7.out⟩
        case measure => simp [intOf]; omega
      · have hcA := HRA1.out.cell 1 _ rfl
        have hcL := HRL1.out.cell 1 _ rfl
        have HTD := hid (Two.kept (HTW1.out.symm) (below_drewN (Below.refl wq.heap.size wq) 1))
        have HRAd := hid (HRA1.out.drew 1)
        have HRLd := hid (HRL1.out.drew 1)
        have HRBd := hid (HRB1.out.drew 1)
        have HBd := hid (HBQ.out.trans ((below_drewN (Below.refl wq.heap.size wq) 1).mono HBQ.out.size))
        have hs' : t.L.length ≤ 2097152 := by omega
        have hlst : t.lst = .slice t.b t.L.length t.c := rfl
        rw [hlst] at hcL
        clear HTW1 HRA1 HRL1 HRB1 HBQ
        go_upto_region 11 with fail
        go_region_held3 (fun w' => w'.cell? ⟨gA, 1, none⟩ = some (.pointer (some ⟨t.p, 0, none⟩)) ∧ w'.cell? ⟨gL, 1, none⟩ = some (.slice t.b t.L.length t.c) ∧ w'.cell? ⟨gB, 0, none⟩ = some (.int .i64 ok) ∧ w'.cell? ⟨gB, 1, none⟩ = some (.bool true) ∧ w'.cell? ⟨gB, 2, none⟩ = some (.int .u64 rl) ∧ w'.cell? ⟨gB, 3, none⟩ = some (.int .u64 rh) ∧ w'.cell? ⟨gB, 4, none⟩ = some (.int .u64 ox)) (go_keep)
          (first
            | (go_at_call 16; refine (do_any HTD.out.fs hs' ok true rl rh ox HOX.out).mono ?_; rintro e w5 hD; obtain ⟨p', v', b', c', L5, rfl, hS5, hM5, hl5⟩ := hD; have HRA5 := hid (Moved.row HTD.out.fs hM5 HRAd.out (by decide) (by decide)); have HRL5 := hid (Moved.row HTD.out.fs hM5 HRLd.out (by decide) (by decide)); have HRB5 := hid (Moved.row HTD.out.fs hM5 HRBd.out (by decide) (by decide)); have HT5 := hid (Two.move (s' := ⟨p', v', b', c', L5⟩) HTD.out hS5 hM5); have HB5 := hid (HBd.out.trans (Moved.below HTD.out.fs hM5)); have HL5 := hid hl5; have x0 := HRA5.out.cell 1 _ rfl; have x1 := HRL5.out.cell 1 _ rfl; have y0 := HRB5.out.cell 0 _ rfl; have y1 := HRB5.out.cell 1 _ rfl; have y2 := HRB5.out.cell 2 _ rfl; have y3 := HRB5.out.cell 3 _ rfl; have y4 := HRB5.out.cell 4 _ rfl; rw [hlst] at x1; clear hS5 hM5 hl5))
        have z0 := HRA5.out.frozen 1
        have hgn : gL ≠ gA := fun e => by have h1 := HRA5.out.at_; have h2 := HRL5.out.at_; rw [e, h1] at h2; simp at h2
        have HRA6 := hid (HRA5.out.set 1 (.pointer (some ⟨p', 0, none⟩)))
        have HRL6 := hid (HRL5.out.setOther ⟨gA, 1, none⟩ hgn (.pointer (some ⟨p', 0, none⟩)))
        have HT6a := hid (Two.put HT5.out HRA5.out (by decide) (by decide) 1 (.pointer (some ⟨p', 0, none⟩)))
        have q1 := HRL6.out.cell 1 _ rfl
        rw [hlst] at q1
        have z1 := HRL6.out.frozen 1
        have HRA7 := hid (HRA6.out.setOther ⟨gL, 1, none⟩ (Ne.symm hgn) (.slice b' L5.length c'))
        have HRL7 := hid (HRL6.out.set 1 (.slice b' L5.length c'))
        have HT6 := hid (Two.put HT6a.out HRL6.out (by decide) (by decide) 1 (.slice b' L5.length c'))
        have HB7 := hid ((HB5.out.setCell (p := ⟨gA, 1, none⟩) HGA.out (.pointer (some ⟨p', 0, none⟩))).setCell (p := ⟨gL, 1, none⟩) HGL.out (.slice b' L5.length c'))
        clear HT6a HRA6 HRL6 HRA5 HRL5 HRB5 HT5 HB5 HTD HRAd HRLd HRBd HBd y0 y1 y2 y3 y4 hcA hcL b0 b1 b2 b3 b4
        go_wp2_with fail
        go_roundw
        case rel => exact ⟨k + 1, s, ⟨p', v', b', c', L5⟩, hlt, by go_num, HRA7.out, HRL7.out, HT6.out.symm, by omega, by have := HL5.out; simp only; omega, HB7.out⟩
        case measure => simp [intOf]; omega
    · have hki : ¬ (k : Int) < (Z.length : Int) := by omega
      have cA0 := HRA0.out.cell 0 _ rfl
      have cA1 := HRA0.out.cell 1 _ rfl
      have cL0 : wr.cell? ⟨gL, 0, none⟩ = some (.slice s.b s.L.length s.c) := HRL0.out.cell 0 _ rfl
      have cL1 : wr.cell? ⟨gL, 1, none⟩ = some (.slice t.b t.L.length t.c) := HRL0.out.cell 1 _ rfl
      obtain ⟨av, cv, _, hVs⟩ := PSt.view HTW0.out.fs (by omega)
      obtain ⟨bv, dv, _, hVt⟩ := PSt.view HTW0.out.ft (by omega)
      have hI := is_any (cb := s.c) hVs HTW0.out.fs.fit (PSt.cells HTW0.out.fs) (by omega)
      have HVT := hid hVt
      have HCT := hid (PSt.cells HTW0.out.ft)
      have HFT := hid HTW0.out.ft.fit
      clear hVs hVt HTW0 HRA0 HRL0
      go_wp2_with fail
      refine hI.mono ?_
      rintro e w8 ⟨rfl, hb8⟩
      have dA1 := cell_kept hb8 cA1
      have dL1 := cell_kept hb8 cL1
      have HVT8 := hid (HVT.out.kept hb8)
      have HCT8 := hid (HCT.out.kept hb8)
      have HB8 := hid (HBR.out.trans (hb8.mono HBR.out.size))
      clear hb8 cA0 cA1 cL0 cL1 HVT HCT HBR hI
      go_wp2_with fail
      refine (is_any HVT8.out HFT.out HCT8.out (by omega)).mono ?_
      rintro e w9 ⟨rfl, hb9⟩
      have HB9 := hid (HB8.out.trans (hb9.mono HB8.out.size))
      clear hb9
      go_wp2_with fail
      go_ret
      exact ⟨rfl, HB9.out⟩
end Go.Proofs.Ytjbjaklbckhodab
