import Derived.Test.YtnohammflhadpaaSb31
import Derived.Deep.RegionHeld3
import Derived.Deep.CutRange
namespace Go.Proofs.Ytnohammflhadpaa
open Go.RowKit Go.Maps Go.Sort
set_option maxRecDepth 100000

/-- A write: bytes that were handed in. -/
structure Wt where
  a : Option Addr
  cap : Nat
  bs : List (BitVec 8)
structure Wt.Ok (w : World) (x : Wt) : Prop where
  by_ : BytesAt w x.a x.bs
  lc : x.bs.length ≤ x.cap
  nm : x.bs.length ≤ 140737488355328
  cm : x.cap ≤ maxLen
  z : x.a = none → x.cap = 0
def WtsAt (w : World) (a : Option Addr) (Ws : List Wt) : Prop := ∀ k (h : k < Ws.length), ∃ g o, a = some ⟨g, o, none⟩ ∧ w.cell? ⟨g, o + k, none⟩ = some (.slice Ws[k].a Ws[k].bs.length Ws[k].cap) ∧ Ws[k].Ok w
def OpqAt (w : World) (a : Option Addr) (Os : List OpQ) : Prop := ∀ k (h : k < Os.length), ∃ g o, a = some ⟨g, o, none⟩ ∧ (∀ j v, Os[k].cells[j]? = some v → w.cell? ⟨g, o + k * 8 + j, none⟩ = some v) ∧ 0 ≤ Os[k].edge ∧ Os[k].edge ≤ 18446744073709551615

theorem info22 : ∃ i : TypeInfo, Try.prog.info? 22 = some i ∧ i.zero = some (.int .u64 0) ∧ i.size = 1 ∧ i.bytes = 8 := by
  have h : (Try.prog.info? 22).map (fun i => (i.zero, i.size, i.bytes)) = some (some (.int .u64 0), 1, 8) := by kernel_rfl
  cases hi : Try.prog.info? 22 with
  | none => rw [hi] at h; simp at h
  | some i =>
    rw [hi] at h
    simp only [Option.map_some, Option.some.injEq, Prod.mk.injEq] at h
    exact ⟨i, rfl, h.1, h.2.1, h.2.2⟩
theorem own_rd {w : World} {B : Nat} {e : TypeId} {size : Nat} {v : Value} {n : Nat} {xs : List Value} (h : w.ownsRow B e size v n xs) : ∃ a c, v = .slice a n c ∧ ∀ j u, xs[j]? = some u → ∃ g, a = some ⟨g, 0, none⟩ ∧ w.cell? ⟨g, j, none⟩ = some u := by
  rcases h.2 with ⟨rfl, hn⟩ | ⟨g, cap, cur, rfl, _, hg, _, _, _, ht⟩
  · refine ⟨none, 0, by rw [hn], fun j u hj => ?_⟩
    have := (List.getElem?_eq_some_iff.1 hj).1
    have := h.1
    rw [hn] at this
    omega
  · refine ⟨_, cap, rfl, fun j u hj => ⟨g, rfl, ?_⟩⟩
    rw [cell_of_row w g _ _ _ _ hg]
    rw [← ht, List.getElem?_take] at hj
    split at hj
    · rwa [Array.getElem?_toList] at hj
    · cases hj
theorem bf_new {w : World} {p : Nat} {F : Sb} (h : SbW w p F none 0) (hl : F.L = []) : Bf w p F (fun x => x = p) :=
  ⟨none, 0, h, rfl, fun g o e => (by cases e), fun c hc => (by rw [hl] at hc; simp at hc), fun x hx => (by subst hx; exact h.r.row.lt)⟩
set_option maxHeartbeats 8000000 in
theorem cut_law {w : World} {base room mss edge b r : Int} {m : Nat} (h0 : 0 ≤ base) (h1 : 0 ≤ edge) (h2 : edge ≤ 18446744073709551615) (hb : min base 4611686018427387904 = b) (hr : max 1 (min room 65536) = r) (hm : max 1 (min mss 1024) = (m : Int)) {aw : Option Addr} {Ws : List Wt} (cw : Nat) (hW : WtsAt w aw Ws) {ao : Option Addr} {Os : List OpQ} (co : Nat) (hO : OpqAt w ao Os) (hWl : Ws.length ≤ 140737488355328) (hOl : Os.length ≤ 140737488355328) :
    Calls Try.prog 6 #[.agg #[.int .u64 base, .int .i64 room, .int .i64 mss, .int .u64 edge], .slice aw Ws.length cw, .slice ao Os.length co] w fun e w' => e = .returned (.bool true) ∧ Below w.heap.size w w' := by
  have hbx : Below w.heap.size w (w.alloc (.cells #[.int .u64 base, .int .i64 room, .int .i64 mss, .int .u64 edge] 24)) := (Below.refl _ _).alloc (Nat.le_refl _) _
  have hR := Row.new w [.int .u64 base, .int .i64 room, .int .i64 mss, .int .u64 edge] 24
  have hz : (w.alloc (.cells #[.int .u64 base, .int .i64 room, .int .i64 mss, .int .u64 edge] 24)).heap.size = w.heap.size + 1 := by simp
  have c0 := hR.cell 0 _ rfl
  have c1 := hR.cell 1 _ rfl
  have c2 := hR.cell 2 _ rfl
  have c3 := hR.cell 3 _ rfl
  have HBX := hid hbx
  have HR := hid hR
  have HW := hid hW
  have HO := hid hO
  clear hbx hR hW hO
  obtain ⟨i22, hi22, hz22, hs22, hb22⟩ := info22
  obtain ⟨i3, hi3, hz3, hs3, hb3⟩ := info3
  obtain ⟨F0, hF0⟩ : ∃ F0, F0 = Sb.mk1 b r m edge := ⟨_, rfl⟩
  have HNEW : Hid (∀ W, Calls Try.prog 9 #[.int .u64 base, .int .i64 room, .int .i64 mss, .int .u64 edge] W fun e w' => ∃ p, e = .returned (.pointer (some ⟨p, 0, none⟩)) ∧ SbW w' p F0 none 0 ∧ Below W.heap.size W w' ∧ W.heap.size ≤ p) := fun W => by rw [hF0]; exact new_any W h0 h1 h2 hb hr hm
  go_enter Try.func6, Try.ntmps6
  go_upto_region 1 with fail
  generalize w.alloc (.cells #[.int .u64 base, .int .i64 room, .int .i64 mss, .int .u64 edge] 24) = W at *
  go_cut [7, 8] from 7 to 38 (fun s7 s8 wx => ∃ pb pc, s7 = .pointer (some ⟨pb, 0, none⟩) ∧ s8 = .pointer (some ⟨pc, 0, none⟩) ∧ SbW wx pb F0 none 0 ∧ SbW wx pc F0 none 0 ∧ pb < pc ∧ W.heap.size ≤ pb ∧ Below W.heap.size W wx)
  case first =>
    go_region_held3 (fun w' => w'.cell? ⟨w.heap.size, 0, none⟩ = some (.int .u64 base) ∧ w'.cell? ⟨w.heap.size, 1, none⟩ = some (.int .i64 room) ∧ w'.cell? ⟨w.heap.size, 2, none⟩ = some (.int .i64 mss) ∧ w'.cell? ⟨w.heap.size, 3, none⟩ = some (.int .u64 edge)) (go_keep)
      (first
        | (go_at_call 9; refine Calls.mono (HNEW.out _) ?_; rintro e w3 ⟨pc, rfl, hs3, hb3, hp3⟩; have hs1' := HS1.out.kept hb3; have HS3 := hid (And.intro hs1' hs3); have e0 := cell_kept hb3 HC0.out; have e1 := cell_kept hb3 HC1.out; have e2 := cell_kept hb3 HC2.out; have e3 := cell_kept hb3 HC3.out; have HB3 := hid (HB2.out.trans (hb3.mono HB2.out.size)); have HP3 := hid hp3; clear hs1' hs3 hb3 hp3)
        | (go_at_call 9; refine Calls.mono (HNEW.out _) ?_; rintro e w2 ⟨pb, rfl, hs2, hb2, hp2⟩; have HS1 := hid hs2; have HC0 := hid (cell_kept hb2 c0); have HC1 := hid (cell_kept hb2 c1); have HC2 := hid (cell_kept hb2 c2); have HC3 := hid (cell_kept hb2 c3); have HB2 := hid hb2; have HP2 := hid hp2; have d0 := HC0.out; have d1 := HC1.out; have d2 := HC2.out; have d3 := HC3.out; clear hs2 hb2 hp2))
    go_wp2_with fail
    go_meet
    have hlt : pb < w2.heap.size := HS1.out.r.row.lt
    have hb3 := HB3.out
    exact ⟨pb, pc, rfl, rfl, HS3.out.1, HS3.out.2, by have := HP3.out; omega, HP2.out, ⟨hb3.os, hb3.tape, hb3.output, hb3.size, hb3.block⟩⟩
  case rest =>
    obtain ⟨pb, pc, rfl, rfl, hsb, hsc, hpp, hpb, hbw⟩ := hcut
    have HCS : Hid (CutS w wc [.int .u64 base, .int .i64 room, .int .i64 mss, .int .u64 edge] pb pc F0 F0 (fun x => x = pb) (fun x => x = pc) (.slice none 0 0) (.slice none 0 0) [] []) := by
      have hl0 : F0.L = [] := by rw [hF0]; rfl
      refine ⟨bf_new hsb hl0, bf_new hsc hl0, fun x hx hy => by omega, fun x hx => by omega, fun x hx => by omega, HBX.out.trans (hbw.mono HBX.out.size), HR.out.kept hbw HR.out.lt, World.ownsRow_nil _ _ _ _, World.ownsRow_nil _ _ _ _, fun x hx => by simp [Value.ownBlock] at hx, fun x hx => by simp [Value.ownBlock] at hx⟩
    have HPU : Hid (CutPu F0 F0 m []) := by
      have e : ∀ x, x = F0 → CutPu x x m [] := fun x hx => by
        rw [hx, hF0]
        exact ⟨rfl, Int.le_refl _, rfl, Int.le_refl _, rfl, rfl, rfl, rfl, Int.le_refl _, rfl, 0, rfl⟩
      exact e F0 rfl
    clear hsb hsc hpp hpb hbw HBX HR HNEW c0 c1 c2 c3 hz
    obtain ⟨NW, hNW⟩ : ∃ NW, Ws.length = NW := ⟨_, rfl⟩
    obtain ⟨NO, hNO⟩ : ∃ NO, Os.length = NO := ⟨_, rfl⟩
    rw [hNW] at hWl ⊢
    rw [hNO] at hOl ⊢
    have HNW := hid hNW
    have HNO := hid hNO
    clear hNW hNO
    have hWi : (NW : Int) ≤ 140737488355328 := by omega
    have hOi : (NO : Int) ≤ 140737488355328 := by omega
    have hm1 : 1 ≤ m := by omega
    have hm2 : m ≤ 1024 := by omega
    have hmm : min (max mss 1) 1024 = (m : Int) := by omega
    clear hm hr hb h0 h1 h2 hF0
    obtain ⟨wf, hwf⟩ : ∃ wf, wf = wc := ⟨_, rfl⟩
    rw [← hwf] at HCS ⊢
    clear hwf
    go_wp2_with (go_at_call 10; refine (awake_any _).mono ?_; rintro e w4 ⟨rfl, hb4⟩; have HCS4 := hid (HCS.out.kept hb4); clear hb4)
    clear HCS
    go_loopw [9, 10, 51] (fun s9 s10 s51 wr => ∃ (i : Nat) (Q : List (Int × Nat)) (Fb Fc : Sb) (B C : Nat → Prop), i ≤ NW ∧ s51 = .int .i64 i ∧ Hid (CutS w wr [.int .u64 base, .int .i64 room, .int .i64 mss, .int .u64 edge] pb pc Fb Fc B C s9 s10 (Q.map fun x => x.1) (Q.map fun x => (x.2 : Int))) ∧ Hid (CutPu Fb Fc m Q)) (fun _ _ s _ => NW - (intOf s).toNat)
    case atStart => exact ⟨0, [], F0, F0, _, _, Nat.zero_le _, rfl, HCS4, HPU⟩
    case round =>
      obtain ⟨i, Q, Fb, Fc, B, C, hi, rfl, HS, HP⟩ := hrel
      clear HCS4 HPU
      by_cases hlt : i < NW
      · have hii : (i : Int) < NW := by omega
        obtain ⟨g, o, rfl, q, hok⟩ := HW.out i (by have := HNW.out; omega)
        have q' := cell_kept HS.out.bel q
        have HOK := hid hok
        generalize Ws[i]'(by have := HNW.out; omega) = x at *
        clear q hok
        go_upto_region 9 with fail
        go_cut [75] from 56 to 75 (fun s75 wx => ∃ Z : Bool, s75 = .bool Z ∧ wx = wr ∧ (Z = true → ∃ h : i < Os.length, Os[i].kind ≠ 2))
        case first =>
          by_cases hio : i < NO
          · have hio' : i < Os.length := by have := HNO.out; omega
            have hioi : (i : Int) < NO := by omega
            obtain ⟨g2, o2, rfl, hcl, _, _⟩ := HO.out i hio'
            have k0 : wr.cell? ⟨g2, o2 + i * 8, none⟩ = some (.int .i64 Os[i].kind) := cell_kept HS.out.bel (hcl 0 _ rfl)
            clear hcl
            by_cases k1 : Os[i].kind = 1
            · rw [k1] at k0
              go_wp2_with fail
              go_meet
              exact ⟨false, rfl, rfl, fun h => by cases h⟩
            · by_cases k2 : Os[i].kind = 2
              · rw [k2] at k0
                go_wp2_with fail
                go_meet
                exact ⟨false, rfl, rfl, fun h => by cases h⟩
              · have HK2 : Hid (∃ h : i < Os.length, Os[i].kind ≠ 2) := ⟨hio', k2⟩
                obtain ⟨kk, hkk⟩ : ∃ kk, Os[i].kind = kk := ⟨_, rfl⟩
                rw [hkk] at k0 k1 k2
                clear hkk
                have d1 : (kk != 1) = true := by simpa using k1
                have d2 : (kk != 2) = true := by simpa using k2
                go_wp2_with fail
                go_meet
                exact ⟨true, by first | rfl | simp_all, rfl, fun _ => HK2.out⟩
          · have hioi : ¬ (i : Int) < NO := by omega
            go_wp2_with fail
            go_meet
            exact ⟨false, rfl, rfl, fun h => by cases h⟩
        case rest =>
          obtain ⟨Z, rfl, hwx, hZ⟩ := hcut
          rw [hwx]
          clear hwx
          have HZ := hid hZ
          clear hZ
          go_upto_if 75 with fail
          go_cut [76] from 76 to 81 (fun _ wx => ∃ (Fc' : Sb) (C' : Nat → Prop), Hid (CutS w wx [.int .u64 base, .int .i64 room, .int .i64 mss, .int .u64 edge] pb pc Fb Fc' B C' u9 u10 (Q.map fun x => x.1) (Q.map fun x => (x.2 : Int))) ∧ Hid (CutPu Fb Fc' m Q))
          case first =>
            cases Z with
            | false =>
              go_wp2_with fail
              go_meet
              exact ⟨Fc, C, HS, HP⟩
            | true =>
              obtain ⟨hio', hk2⟩ := HZ.out rfl
              obtain ⟨g2, o2, rfl, hcl, he0, he1⟩ := HO.out i hio'
              have hioi : (i : Int) < NO := by have := HNO.out; omega
              have k0 : wr.cell? ⟨g2, o2 + i * 8, none⟩ = some (.int .i64 Os[i].kind) := cell_kept HS.out.bel (hcl 0 _ rfl)
              have k1 : wr.cell? ⟨g2, o2 + i * 8 + 1, none⟩ = some (.bool Os[i].other) := cell_kept HS.out.bel (hcl 1 _ rfl)
              have k2 : wr.cell? ⟨g2, o2 + i * 8 + 2, none⟩ = some (.int .i64 Os[i].path) := cell_kept HS.out.bel (hcl 2 _ rfl)
              have k3 : wr.cell? ⟨g2, o2 + i * 8 + 3, none⟩ = some (.int .u64 Os[i].off) := cell_kept HS.out.bel (hcl 3 _ rfl)
              have k4 : wr.cell? ⟨g2, o2 + i * 8 + 4, none⟩ = some (.bool Os[i].rel) := cell_kept HS.out.bel (hcl 4 _ rfl)
              have k5 : wr.cell? ⟨g2, o2 + i * 8 + 5, none⟩ = some (.int .u64 Os[i].edge) := cell_kept HS.out.bel (hcl 5 _ rfl)
              have k6 : wr.cell? ⟨g2, o2 + i * 8 + 6, none⟩ = some (.int .i64 Os[i].n) := cell_kept HS.out.bel (hcl 6 _ rfl)
              have k7 : wr.cell? ⟨g2, o2 + i * 8 + 7, none⟩ = some Os[i].data := cell_kept HS.out.bel (hcl 7 _ rfl)
              have HPLAY := hid (play_open HS.out.c HP.out.cc HP.out.ac Os[i].kind Os[i].other Os[i].path Os[i].off Os[i].rel Os[i].edge Os[i].n Os[i].data he0 he1 hk2)
              clear hcl he0 he1 hk2 HZ
              generalize Os[i].kind = o0 at *
              generalize Os[i].other = o1 at *
              generalize Os[i].path = o2' at *
              generalize Os[i].off = o3 at *
              generalize Os[i].rel = o4 at *
              generalize Os[i].edge = o5 at *
              generalize Os[i].n = o6 at *
              generalize Os[i].data = o7 at *
              go_wp2_with (go_at_call 21; refine HPLAY.out.mono ?_; rintro e w5 ⟨rfl, hA⟩; have HA := hid hA; clear hA)
              go_meet
              obtain ⟨Fc', k1, k2, k3⟩ := HA.out
              exact ⟨Fc', _, hid (HS.out.turnC k1 k2), hid (HP.out.play k3)⟩
          case rest =>
            obtain ⟨Fc2, C2, HS2, HP2⟩ := hcut
            clear HS HP HZ
            obtain ⟨N, hN⟩ : ∃ N, x.bs.length = N := ⟨_, rfl⟩
            rw [hN]
            obtain ⟨n, hn⟩ : ∃ n, Fb.takes N = n := ⟨_, rfl⟩
            have hnN : n ≤ N := by unfold Sb.takes at hn; omega
            have hNc : N ≤ x.cap := by have := HOK.out.lc; omega
            have hcm : (x.cap : Int) ≤ 9223372036854775807 := by have := HOK.out.cm; unfold maxLen at this; omega
            have hnci : (n : Int) ≤ x.cap := by omega
            have hn6 : (n : Int) ≤ 65536 := by
              have h1 := HS2.out.b.ok
              have h2 := h1.r1
              have h3 := h1.fr
              have h4 := HP2.out.ab
              unfold Sb.takes Sb.free at hn
              omega
            have HWB := hid (write_B HS2.out.b HP2.out.cb HP2.out.ab (HOK.out.by_.kept HS2.out.bel) N x.cap hN hNc (by have := HOK.out.nm; omega) HOK.out.z n hn)
            have HTK := hid (HP2.out.takes hn)
            have HA0 := hid HS2.out.b.ok.a0
            clear hn
            go_wp2_with fail
            refine HWB.out.mono ?_
            rintro e w6 ⟨rfl, Fb3, k1, k2, hwl⟩
            have HS3 := hid (HS2.out.turnB k1 k2)
            have HWL := hid hwl
            clear k1 k2 hwl HWB HS2
            generalize grew B wc w6 = B3 at *
            have hBn : BytesAt w6 x.a (x.bs.take n) := fun k hk => by
              have hk' : k < n := by rw [List.length_take] at hk; omega
              obtain ⟨g4, o4, e4, c4⟩ := HOK.out.by_.kept HS3.out.bel k (by omega)
              refine ⟨g4, o4, e4, ?_⟩
              rw [List.getElem_take]
              exact c4
            have HWC := hid (write_B HS3.out.c HP2.out.cc HP2.out.ac hBn n x.cap (by rw [List.length_take]; omega) (by omega) (by omega) HOK.out.z n HTK.out)
            clear hBn HTK
            go_wp2_with fail
            refine HWC.out.mono ?_
            rintro e w7 ⟨rfl, Fc4, k1, k2, hwl⟩
            have HS4 := hid (HS3.out.turnC k1 k2)
            have HP4 := hid (HP2.out.write HWL.out hwl)
            have HE4 : Hid (Fb3.end_ = Fb.end_ + n) := HWL.out.end_
            have HENB : Hid (0 ≤ Fb.acked ∧ Fb.acked ≤ Fb.end_) := ⟨HA0.out, HP2.out.ab⟩
            clear k1 k2 hwl HWC HS3 HP2 HWL HOK HA0
            generalize grew C2 w6 w7 = C4 at *
            have bx := HS4.out.box.cell 2 _ rfl
            go_upto_region 15 with fail
            clear bx
            have hbo := HS4.out.b.ok
            have hE0 : 0 ≤ Fb.end_ := by have h5 := HENB.out; omega
            have hE1 : Fb.end_ + n ≤ 4611686018427387904 := by have h1 := hbo.e1; have h3 := HE4.out; omega
            clear hbo HENB
            obtain ⟨E, hE⟩ : ∃ E, Fb.end_ = E := ⟨_, rfl⟩
            rw [hE] at hE0 hE1 HE4 HP4
            clear hE
            go_wp2_with fail
            go_loopw [9, 10, 15] (fun s9 s10 s15 wx => ∃ (at_ : Nat) (Q' : List (Int × Nat)), at_ ≤ n + 1024 ∧ s15 = .int .i64 at_ ∧ Hid (CutS w wx [.int .u64 base, .int .i64 room, .int .i64 mss, .int .u64 edge] pb pc Fb3 Fc4 B3 C4 s9 s10 (Q'.map fun x => x.1) (Q'.map fun x => (x.2 : Int))) ∧ Hid (Q' ++ cutA m (E + at_) (n - at_) = Q ++ cutA m E n)) (fun _ _ s _ => n - (intOf s).toNat)
            case atStart => exact ⟨0, Q, Nat.zero_le _, rfl, HS4, hid (by simp)⟩
            case round =>
              obtain ⟨at_, Q', hat, rfl, HSI, HQI⟩ := hrel
              clear HS4
              by_cases han : at_ < n
              · have hani : (at_ : Int) < n := by omega
                have HEND : Hid (Calls Try.prog 15 #[.pointer (some ⟨pb, 0, none⟩)] wr fun e w' => e = .returned (.int .u64 (E + n)) ∧ w' = wr) := by
                  obtain ⟨a, cap, hA⟩ := HSI.out.b
                  rw [← HE4.out]
                  exact end_any hA.sb.r
                have hw1 : IntKind.i64.wrap ((n : Int) - at_) = (n : Int) - at_ := by rw [IntKind.wrap_i64]; omega
                have hw2 : IntKind.u64.wrap ((n : Int) - at_) = (n : Int) - at_ := by rw [IntKind.wrap_u64]; omega
                have hw3 : IntKind.u64.wrap (E + n - ((n : Int) - at_)) = E + at_ := by rw [IntKind.wrap_u64]; omega
                have hql : Q'.length ≤ 65537 := by
                  have h1 := HSI.out.b.ok.nl
                  have h2 := congrArg List.length HP4.out.qb
                  have h3 := congrArg List.length HQI.out
                  unfold Sb.prs at h2
                  rw [List.length_map] at h2
                  rw [List.length_append] at h3
                  omega
                have HO9 : Hid (wr.ownsRow (w.heap.size + 1) 22 1 u9 Q'.length ((Q'.map fun x => x.1).map fun x => .int .u64 x)) := by have := HSI.out.o9; rwa [List.length_map] at this
                have hsz : w.heap.size + 1 ≤ wr.heap.size := HSI.out.box.lt
                go_upto_region 19 with (first | (go_at_call 15; refine HEND.out.mono ?_; rintro e w8 ⟨rfl, h8⟩; rw [h8]; clear h8) | (at_builtin; refine wpList_append_own_at _ rfl _ _ 58 rfl (w.heap.size + 1) 22 i22 (.int .u64 0) 1 8 Try.underlying58 hi22 hz22 hs22 hb22 rfl (by decide) _ _ _ rfl (World.ownsRow.alloc HO9.out _) ⟨wr.heap.size, 0, none⟩ 1 1 [.int .u64 (E + at_)] rfl rfl (box_range wr 22 _) (by simp [Value.oneCell']) (by unfold maxLen; omega) (by omega) (by simp; omega) ?_; intro v9 w9 h9 g9 _ n9; have H9 := hid h9; have HG9 := hid (And.intro g9 n9); clear h9 g9 n9))
                have HS9 := hid (HSI.out.push9 (z := E + at_) (by rw [List.length_map]; exact H9.out) HG9.out.1 HG9.out.2)
                have HO10 : Hid (w9.ownsRow (w.heap.size + 1) 3 1 u10 Q'.length ((Q'.map fun x => (x.2 : Int)).map fun x => .int .i64 x)) := by have := HS9.out.o10; rwa [List.length_map] at this
                have hsz9 : w.heap.size + 1 ≤ w9.heap.size := HS9.out.box.lt
                have hw4 : IntKind.i64.wrap ((at_ : Int) + m) = (at_ : Int) + m := by rw [IntKind.wrap_i64]; omega
                clear HO9 H9 HG9 HSI HEND
                go_wp2_with (at_builtin; refine wpList_append_own_at _ rfl _ _ 30 rfl (w.heap.size + 1) 3 i3 (.int .i64 0) 1 8 Try.underlying30 hi3 hz3 hs3 hb3 rfl (by decide) _ _ _ rfl (World.ownsRow.alloc HO10.out _) ⟨w9.heap.size, 0, none⟩ 1 1 [.int .i64 (min (m : Int) ((n : Int) - at_))] rfl rfl (box_range w9 3 _) (by simp [Value.oneCell']) (by unfold maxLen; omega) (by omega) (by simp; omega) ?_; intro v10 w10 h10 g10 _ n10; have H10 := hid h10; have HG10 := hid (And.intro g10 n10); clear h10 g10 n10)
                have HS10 := hid (HS9.out.push10 (z := min (m : Int) ((n : Int) - at_)) (by rw [List.length_map]; exact H10.out) HG10.out.1 HG10.out.2)
                have HQ10 : Hid ((Q' ++ [(E + at_, min m (n - at_))]) ++ cutA m (E + (at_ + m : Nat)) (n - (at_ + m)) = Q ++ cutA m E n) := by
                  show _ = _
                  rw [← HQI.out, cutA_step hm1 (E + at_) (by omega : 0 < n - at_), List.append_assoc]
                  simp only [List.singleton_append]
                  congr 3
                  · rw [Int.natCast_add]; omega
                  · omega
                clear HQI HO10 H10 HG10 HS9
                go_roundw
                case rel =>
                  refine ⟨at_ + m, Q' ++ [(E + at_, min m (n - at_))], by omega, by go_num, hid ?_, HQ10⟩
                  have e1 : ((Q' ++ [(E + (at_ : Int), min m (n - at_))]).map fun x => x.1) = (Q'.map fun x => x.1) ++ [E + at_] := by simp
                  have e2 : ((Q' ++ [(E + (at_ : Int), min m (n - at_))]).map fun x => (x.2 : Int)) = (Q'.map fun x => (x.2 : Int)) ++ [min (m : Int) ((n : Int) - at_)] := by
                    rw [List.map_append]
                    congr 1
                    simp only [List.map_cons, List.map_nil]
                    congr 1
                    omega
                  rw [e1, e2]
                  exact HS10.out
                case measure => simp [intOf]; omega
              · have hani : ¬ (at_ : Int) < n := by omega
                have hQe : Q' = Q ++ cutA m E n := by
                  have := HQI.out
                  rw [show n - at_ = 0 by omega, cutA_zero, List.append_nil] at this
                  exact this
                rw [hQe] at HSI
                clear HQI hQe
                go_wp2_with fail
                go_roundw
                case rel => exact ⟨i + 1, _, Fb3, Fc4, B3, C4, hlt, by go_num, HSI, HP4⟩
                case measure => simp [intOf]; omega
      · have hii : ¬ (i : Int) < NW := by omega
        have HCB : Hid (Calls Try.prog 19 #[.pointer (some ⟨pb, 0, none⟩)] wr fun e w' => ∃ v X, e = .returned v ∧ w'.ownsRow wr.heap.size 32 5 v Fb.L.length X ∧ ChX Fb.L X ∧ Below wr.heap.size wr w') := by
          obtain ⟨a, cap, hA⟩ := HS.out.b
          exact chunks_any hA.sb.r
        go_wp2_with fail
        refine HCB.out.mono ?_
        rintro e w5 ⟨v16, X, rfl, ho5, hX, hb5⟩
        have HS5 := hid (HS.out.kept hb5)
        obtain ⟨K, hK⟩ : ∃ K, Q.length = K := ⟨_, rfl⟩
        have hLK : Fb.L.length = K := by
          have := congrArg List.length HP.out.qb
          unfold Sb.prs at this
          rw [List.length_map] at this
          omega
        have hK6 : K ≤ 65537 := by have := HS.out.b.ok.nl; omega
        obtain ⟨a16, c16, rfl, h16⟩ := own_rd ho5
        obtain ⟨a9, c9, rfl, h9⟩ := own_rd HS5.out.o9
        obtain ⟨a10, c10, rfl, h10⟩ := own_rd HS5.out.o10
        rw [List.length_map, hK] at HS5
        rw [hLK]
        rw [List.length_map, hK]
        have HAT : Hid (∀ j (hj : j < K), ∃ g16 g9 g10 o l, a16 = some ⟨g16, 0, none⟩ ∧ a9 = some ⟨g9, 0, none⟩ ∧ a10 = some ⟨g10, 0, none⟩ ∧ Q[j]? = some (o, l) ∧ w5.cell? ⟨g16, j * 5, none⟩ = some (.int .u64 o) ∧ w5.cell? ⟨g16, j * 5 + 1, none⟩ = some (.int .i64 (l : Int)) ∧ w5.cell? ⟨g9, j, none⟩ = some (.int .u64 o) ∧ w5.cell? ⟨g10, j, none⟩ = some (.int .i64 (l : Int))) := fun j hj => by
          obtain ⟨x0, x1, _, _⟩ := hX.at_ j (by omega)
          obtain ⟨g16, e16, d0⟩ := h16 _ _ x0
          obtain ⟨g16', e16', d1⟩ := h16 _ _ x1
          rw [e16] at e16'
          cases e16'
          have hq : Q[j]? = some ((Fb.L[j]'(by omega)).off, (Fb.L[j]'(by omega)).bs.length) := by
            rw [← HP.out.qb]
            unfold Sb.prs
            rw [List.getElem?_map, List.getElem?_eq_getElem (by omega)]
            rfl
          obtain ⟨g9, e9, d9⟩ := h9 j (.int .u64 (Fb.L[j]'(by omega)).off) (by rw [List.getElem?_map, List.getElem?_map, hq]; rfl)
          obtain ⟨g10, e10, d10⟩ := h10 j (.int .i64 ((Fb.L[j]'(by omega)).bs.length : Int)) (by rw [List.getElem?_map, List.getElem?_map, hq]; rfl)
          exact ⟨g16, g9, g10, _, _, e16, e9, e10, hq, d0, d1, d9, d10⟩
        have hKi : (K : Int) ≤ 65537 := by omega
        clear ho5 hX hb5 h16 h9 h10 HS HCB
        go_wp2_with fail
        go_loopw [130] (fun s130 wx => ∃ j : Nat, j ≤ K ∧ s130 = .int .i64 j ∧ ∃ q, wx = w5.drewN q) (fun s _ => K - (intOf s).toNat)
        case atStart => exact ⟨0, Nat.zero_le _, rfl, 0, rfl⟩
        case round =>
          obtain ⟨j, hj, rfl, q, rfl⟩ := hrel
          by_cases hjl : j < K
          · have hji : (j : Int) < K := by omega
            obtain ⟨g16, g9, g10, oo, ll, rfl, rfl, rfl, _, d0, d1, d9, d10⟩ := HAT.out j hjl
            go_upto_region 27 with fail
            have e0 : ∀ q, (w5.drewN q).cell? ⟨g16, j * 5, none⟩ = some (.int .u64 oo) := fun q => d0
            have e1 : ∀ q, (w5.drewN q).cell? ⟨g16, j * 5 + 1, none⟩ = some (.int .i64 (ll : Int)) := fun q => d1
            have e9 : ∀ q, (w5.drewN q).cell? ⟨g9, j, none⟩ = some (.int .u64 oo) := fun q => d9
            have e10 : ∀ q, (w5.drewN q).cell? ⟨g10, j, none⟩ = some (.int .i64 (ll : Int)) := fun q => d10
            clear d0 d1 d9 d10
            go_quiet (fail)
            go_wp2_with fail
            go_roundw
            case rel => exact ⟨j + 1, hjl, by go_num, _, rfl⟩
            case measure => simp [intOf]; omega
          · have hji : ¬ (j : Int) < K := by omega
            have hbq := below_drewN (Below.refl w5.heap.size w5) q
            have HS6 := hid (HS5.out.kept hbq)
            have HAQ : Hid (∀ j (hj : j < K), ∃ g16 o l, a16 = some ⟨g16, 0, none⟩ ∧ Q[j]? = some (o, l) ∧ (w5.drewN q).cell? ⟨g16, j * 5, none⟩ = some (.int .u64 o) ∧ (w5.drewN q).cell? ⟨g16, j * 5 + 1, none⟩ = some (.int .i64 (l : Int))) := fun j hj => by
              obtain ⟨g16, g9, g10, o, l, e1, _, _, e4, d0, d1, _, _⟩ := HAT.out j hj
              exact ⟨g16, o, l, e1, e4, d0, d1⟩
            clear HAT HS5 hbq
            generalize w5.drewN q = w6 at *
            have HCC : Hid (Calls Try.prog 19 #[.pointer (some ⟨pc, 0, none⟩)] w6 fun e w' => ∃ v X, e = .returned v ∧ w'.ownsRow w6.heap.size 32 5 v Fc.L.length X ∧ ChX Fc.L X ∧ Below w6.heap.size w6 w') := by
              obtain ⟨a, cap, hA⟩ := HS6.out.c
              exact chunks_any hA.sb.r
            go_wp2_with fail
            refine HCC.out.mono ?_
            rintro e w7 ⟨v18, X, rfl, ho7, hX, hb7⟩
            obtain ⟨K2, hK2⟩ : ∃ K2, Fc.L.length = K2 := ⟨_, rfl⟩
            obtain ⟨a18, c18, rfl, h18⟩ := own_rd ho7
            obtain ⟨nn, hnn⟩ := HP.out.qc
            have hlen : K2 = K - nn := by
              have := congrArg List.length hnn
              unfold Sb.prs at this
              rw [List.length_map, List.length_drop] at this
              omega
            have HB7 : Hid (Below w.heap.size w w7) := HS6.out.bel.trans (hb7.mono HS6.out.bel.size)
            have HAC : Hid (∀ t (ht : t < K2), ∃ g18 g16 o l, a18 = some ⟨g18, 0, none⟩ ∧ a16 = some ⟨g16, 0, none⟩ ∧ w7.cell? ⟨g18, t * 5, none⟩ = some (.int .u64 o) ∧ w7.cell? ⟨g18, t * 5 + 1, none⟩ = some (.int .i64 (l : Int)) ∧ w7.cell? ⟨g16, (K - K2 + t) * 5, none⟩ = some (.int .u64 o) ∧ w7.cell? ⟨g16, (K - K2 + t) * 5 + 1, none⟩ = some (.int .i64 (l : Int))) := fun t ht => by
              obtain ⟨x0, x1, _, _⟩ := hX.at_ t (by omega)
              obtain ⟨g18, e18, d0⟩ := h18 _ _ x0
              obtain ⟨g18', e18', d1⟩ := h18 _ _ x1
              rw [e18] at e18'
              cases e18'
              obtain ⟨g16, o, l, e16, hq, c0, c1⟩ := HAQ.out (K - K2 + t) (by omega)
              have hp : Fc.prs[t]? = some ((Fc.L[t]'(by omega)).off, (Fc.L[t]'(by omega)).bs.length) := by
                unfold Sb.prs
                rw [List.getElem?_map, List.getElem?_eq_getElem (by omega)]
                rfl
              rw [hnn, List.getElem?_drop, show nn + t = K - K2 + t by omega, hq] at hp
              simp only [Option.some.injEq, Prod.mk.injEq] at hp
              refine ⟨g18, g16, o, l, e18, e16, by rw [hp.1]; exact d0, by rw [hp.2]; exact d1, cell_kept hb7 c0, cell_kept hb7 c1⟩
            have hK2i : (K2 : Int) ≤ K := by omega
            rw [hK2]
            clear ho7 hX hb7 h18 hnn HAQ HS6 HCC hK2 HP hlen
            go_wp2_with fail
            go_loopw [160] (fun s160 wx => ∃ t : Nat, t ≤ K2 ∧ s160 = .int .i64 t ∧ ∃ q, wx = w7.drewN q) (fun s _ => K2 - (intOf s).toNat)
            case atStart => exact ⟨0, Nat.zero_le _, rfl, 0, rfl⟩
            case round =>
              obtain ⟨t, ht, rfl, q7, rfl⟩ := hrel
              by_cases htl : t < K2
              · have hti : (t : Int) < K2 := by omega
                obtain ⟨g18, g16, oo, ll, rfl, rfl, d0, d1, d2, d3⟩ := HAC.out t htl
                obtain ⟨kx, hkx⟩ : ∃ kx, K - K2 + t = kx := ⟨_, rfl⟩
                rw [hkx] at d2 d3
                have hkk : kx < K := by omega
                have hk1 : IntKind.i64.wrap ((K : Int) - K2) = (K : Int) - K2 := by rw [IntKind.wrap_i64]; omega
                have hk2 : IntKind.i64.wrap ((K : Int) - K2 + t) = (kx : Int) := by rw [IntKind.wrap_i64]; omega
                have e0 : ∀ q, (w7.drewN q).cell? ⟨g18, t * 5, none⟩ = some (.int .u64 oo) := fun q => d0
                have e1 : ∀ q, (w7.drewN q).cell? ⟨g18, t * 5 + 1, none⟩ = some (.int .i64 (ll : Int)) := fun q => d1
                have e2 : ∀ q, (w7.drewN q).cell? ⟨g16, kx * 5, none⟩ = some (.int .u64 oo) := fun q => d2
                have e3 : ∀ q, (w7.drewN q).cell? ⟨g16, kx * 5 + 1, none⟩ = some (.int .i64 (ll : Int)) := fun q => d3
                clear d0 d1 d2 d3 hkx
                have hki : (kx : Int) < K := by omega
                go_upto_region 35 with fail
                go_quiet (fail)
                go_wp2_with fail
                go_roundw
                case rel => exact ⟨t + 1, htl, by go_num, _, rfl⟩
                case measure => simp [intOf]; omega
              · have hti : ¬ (t : Int) < K2 := by omega
                have hbq := below_drewN (Below.refl w7.heap.size w7) q7
                have HB8 := hid (HB7.out.trans (hbq.mono HB7.out.size))
                clear hbq HB7
                go_wp2_with fail
                go_ret
                exact ⟨rfl, HB8.out⟩
end Go.Proofs.Ytnohammflhadpaa
