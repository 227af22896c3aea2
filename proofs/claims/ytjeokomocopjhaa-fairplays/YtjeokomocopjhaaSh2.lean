import Derived.Test.YtjeokomocopjhaaSh1
import Derived.Test.YtjeokomocopjhaaFa14
namespace Go.Proofs.Ytjeokomocopjhaa
open Go.RowKit Go.Maps
set_option maxRecDepth 100000

/-- Ints that were handed in. -/
def IntsAt (w : World) (a : Option Addr) (l : List Int) : Prop := ∀ k (h : k < l.length), ∃ g o, a = some ⟨g, o, none⟩ ∧ w.cell? ⟨g, o + k, none⟩ = some (.int .i64 l[k])
/-- The law's own rows: numbers by the streams' numbers. -/
def icells (n : Nat) (f : Int → Int) : List Value := (List.range n).map fun (i : Nat) => .int .i64 (f ((i : Int) + 1))
theorem icells_get {n i : Nat} (f : Int → Int) (h : i < n) : (icells n f)[i]? = some (.int .i64 (f ((i : Int) + 1))) := by simp [icells, h]
theorem icells_set {n i : Nat} (f : Int → Int) (v : Int) : (icells n f).set i (.int .i64 v) = icells n (fun y => if y = (i : Int) + 1 then v else f y) := by
  apply List.ext_getElem?
  intro j
  rw [List.getElem?_set]
  by_cases hj : j < n
  · rw [icells_get _ hj]
    by_cases e : i = j
    · subst e
      simp [icells, hj]
    · have e' : ¬ (j : Int) = (i : Int) := by omega
      simp [icells, hj, e, e']
  · by_cases e : i = j
    · subst e
      simp [icells, hj]
    · rw [if_neg e]
      simp [icells, hj]
theorem info3 : ∃ i : TypeInfo, Try.prog.info? 3 = some i ∧ i.zero = some (.int .i64 0) ∧ i.size = 1 ∧ i.bytes = 8 := by
  have h : (Try.prog.info? 3).map (fun i => (i.zero, i.size, i.bytes)) = some (some (.int .i64 0), 1, 8) := by kernel_rfl
  cases hq : Try.prog.info? 3 with
  | none => rw [hq] at h; cases h
  | some i => rw [hq] at h; simp at h; exact ⟨i, rfl, h.1, h.2.1, h.2.2⟩
theorem made3 (n : Nat) : madeCells #[.int .i64 0] n = (icells n (fun _ => 0)).toArray := by
  apply Array.ext_getElem?
  intro j
  by_cases h : j < n
  · simp [madeCells, icells, h, Nat.mod_one]
  · simp [madeCells, icells, h]
theorem make3 (w : World) (n : Nat) (hn : n ≤ 1099511627776) : (Instr.makeSlice 22 (.int .i64 (n : Int)) (.int .i64 (n : Int))).run Try.prog w = .ok (.slice (some ⟨w.heap.size, 0, none⟩) n n) (w.alloc (.cells (icells n (fun _ => 0)).toArray 3)) := by
  obtain ⟨i, h1, h2, h3, h4⟩ := info3
  have hr := run_make (P := Try.prog) w 22 3 i (.int .i64 0) Try.underlying22 h1 h2 .i64 .i64 (n : Int) (n : Int) (by omega) (by omega) (by rw [h4]; omega) (by omega)
  simp only [Int.toNat_natCast, h3, Nat.mul_one, Value.cells, made3] at hr
  exact hr
theorem Fa.setOther {s0 p : Nat} {w : World} {F : Fs} (h : Fa s0 w p F) {g : Nat} {c : List Value} {t : TypeId} (hr : Row w g c t) (h1 : t ≠ 57) (h2 : t ≠ 44) (h3 : t ≠ 26) (o : Nat) (v : Value) : Fa s0 (w.setCell ⟨g, o, none⟩ v) p F := by
  obtain ⟨k, hs, b, V, hA, hf⟩ := h
  refine ⟨k, by simpa using hs, b, V, hA.kept (S := fun k => k = g) ((Fr.refl _ _).setCell g o v (.inl rfl)) (fun k hk e => ?_), hf⟩
  subst e
  exact hA.other hr.at_ h1 h2 h3 hk
theorem qN_eq (z : Int) : min (max z 1) 65536 = qN z := by unfold qN; omega
theorem prod_bd {x y a b : Int} (h1 : 0 ≤ x ∧ x ≤ a) (h2 : 0 ≤ y ∧ y ≤ b) : 0 ≤ x * y ∧ x * y ≤ a * b :=
  ⟨Int.mul_nonneg h1.1 h2.1, Int.mul_le_mul h1.2 h2.2 h2.1 (by omega)⟩
set_option maxHeartbeats 8000000 in
theorem shares_law {w : World} (quantum : Int) {a1 a2 : Option Addr} {S M : List Int} (c1 c2 : Nat) (lower : Bool) (hS : IntsAt w a1 S) (hM : IntsAt w a2 M) (hl1 : S.length ≤ 140737488355328) (hl2 : M.length ≤ 140737488355328) :
    Calls Try.prog 3 #[.int .i64 quantum, .slice a1 S.length c1, .slice a2 M.length c2, .bool lower] w fun e w' => e = .returned (.bool true) ∧ Below w.heap.size w w' := by
  have HS := hid2 hS
  have HM := hid2 hM
  have HNW := hid2 (fa_new w quantum)
  have hn23 := eq23
  have hqe := qN_eq quantum
  have hqb := qN_bd quantum
  generalize qN quantum = Q at *
  obtain ⟨n, hn⟩ : ∃ n : Nat, (n : Int) = min (S.length : Int) 20 := ⟨(min (S.length : Int) 20).toNat, by omega⟩
  have hn' : min (S.length : Int) 20 = (n : Int) := hn.symm
  have HN := hid2 (show n ≤ S.length ∧ n ≤ 20 by omega)
  have hmk := fun w => make3 w n (by omega)
  have HL := hid2 (And.intro hl1 hl2)
  have HQ := hid2 hqb
  clear hS hM hn hl1 hl2 hqb
  go_enter Try.func3, Try.ntmps3
  go_upto_region 6 with (first
    | (go_at_call 7; refine HNW.out.mono ?_; rintro e w1 ⟨p, rfl, hF1, hb1⟩; have HF1 := hid2 hF1; have HB1 := hid2 hb1; clear hF1 hb1 HNW)
    | (go_at_call 8; refine (awake_any _).mono ?_; rintro e w2 ⟨rfl, hb2⟩; have HF2 := hid2 (HF1.out.below hb2); have HB2 := hid2 (HB1.out.trans (hb2.mono HB1.out.size)); clear hb2 HF1 HB1))
  go_upto_region 8 with fail
  refine wp_world ?_
  intro w3 hw3
  have hb3 : Below w2.heap.size w2 w3 := by rw [hw3.out]; exact (below_box w2 _).trans ((below_box _ _).mono (below_box w2 _).size)
  have RG3 : Row w3 w2.heap.size (icells n (fun _ => 0)) 3 := by rw [hw3.out]; exact (Row.new w2 _ 3).alloc _
  have RS3 : Row w3 (w2.heap.size + 1) (icells n (fun _ => 0)) 3 := by
    rw [hw3.out]
    have := Row.new (w2.alloc (.cells (icells n (fun _ => 0)).toArray 3)) (icells n (fun _ => 0)) 3
    rwa [show (w2.alloc (.cells (icells n (fun _ => 0)).toArray 3)).heap.size = w2.heap.size + 1 by simp] at this
  have HF3 := hid2 (HF2.out.below hb3)
  have HB3 := hid2 (HB2.out.trans (hb3.mono HB2.out.size))
  have HSZ := hid2 HB2.out.size
  have HRG3 := hid2 RG3
  have HRS3 := hid2 RS3
  clear hw3 hb3 RG3 RS3 HF2 HB2 hmk
  obtain ⟨gG, hgG⟩ : ∃ g, w2.heap.size = g := ⟨_, rfl⟩
  obtain ⟨gS, hgS⟩ : ∃ g, w2.heap.size + 1 = g := ⟨_, rfl⟩
  rw [hgG] at HRG3
  rw [hgS] at HRS3
  rw [hgG, ← hgG, hgS, hgG]
  have HGS := hid2 (show gG ≠ gS by omega)
  have HSS := hid2 (show w.heap.size ≤ gS by have := HSZ.out; omega)
  have HGG := hid2 (show w.heap.size ≤ gG by have := HSZ.out; omega)
  clear hgG hgS
  go_wp2_with fail
  go_loopw [14] (fun s14 wr => ∃ (i : Nat) (F : Fs) (f : Int → Int), i ≤ n ∧ s14 = .int .i64 i ∧ Fa w.heap.size wr p F ∧ ShB 3 Q i (shOf S) (fun _ => 1099511627776) F ∧ (∀ x ∈ F.U, x.num ≤ i) ∧ F.U.length = i ∧ Row wr gG (icells n (fun _ => 0)) 3 ∧ Row wr gS (icells n f) 3 ∧ (∀ y : Int, 1 ≤ y → y ≤ i → f y = shOf S y) ∧ Below w.heap.size w wr) (fun s _ => n - (intOf s).toNat)
  case atStart => exact ⟨0, Fs.zero Q, fun _ => 0, Nat.zero_le _, rfl, HF3.out, zero_B 3 Q _ _, fun x hx => (by cases hx), rfl, HRG3.out, HRS3.out, fun y h1 h2 => (by exfalso; omega), HB3.out⟩
  case round =>
    obtain ⟨i, F, f, hi, rfl, hFa, hB, hnb, hlen, hG, hSr, hf, hBe⟩ := hrel
    have HFa := hid2 hFa
    have HBB := hid2 hB
    have HNB := hid2 (And.intro hnb hlen)
    have HG := hid2 hG
    have HSR := hid2 hSr
    have HFF := hid2 hf
    have HBE := hid2 hBe
    clear hFa hB hnb hlen hG hSr hf hBe HF3 HB3 HRG3 HRS3
    by_cases hlt : i < n
    · have hii : (i : Int) < (n : Int) := by omega
      have hi19 : (i : Int) ≤ 19 := by have := HN.out; omega
      have hiS : i < S.length := by have := HN.out; omega
      have hiSI : (i : Int) < (S.length : Int) := by omega
      obtain ⟨gA, oA, rfl, hcA⟩ := HS.out i hiS
      have cA := cell_kept HBE.out hcA
      have HSH := hid2 (shOf_at hiS)
      generalize S[i] = z at *
      have hwz : IntKind.u64.wrap z = z % 18446744073709551616 := IntKind.wrap_u64 z
      obtain ⟨u, hu⟩ : ∃ u, z % 18446744073709551616 = u := ⟨_, rfl⟩
      have hu0 : 0 ≤ u := by omega
      have hu1 : u ≤ 18446744073709551615 := by omega
      rw [hu] at hwz
      rw [hu] at HSH
      obtain ⟨m, hm⟩ : ∃ m, u % 255 = m := ⟨_, rfl⟩
      have hm0 : 0 ≤ m := by omega
      have hm1 : m ≤ 254 := by omega
      have hmt : u.tmod 255 = m := by rw [Int.tmod_eq_emod_of_nonneg hu0]; exact hm
      rw [hm] at HSH
      have cS := HSR.out.cell i _ (icells_get f hlt)
      have fS := HSR.out.frozen i
      clear hu hcA
      go_upto_region 12 with fail
      refine wp_world ?_
      intro w4 hw4
      have hRow4 : Row w4 gS (icells n (fun y => if y = (i : Int) + 1 then 1 + m else f y)) 3 := by rw [hw4.out, ← icells_set]; exact HSR.out.set i _
      have hG4 : Row w4 gG (icells n (fun _ => 0)) 3 := by rw [hw4.out]; exact HG.out.setOther ⟨gS, i, none⟩ HGS.out _
      have hFa4 : Fa w.heap.size w4 p F := by rw [hw4.out]; exact HFa.out.setOther HSR.out (by decide) (by decide) (by decide) i _
      have hBe4 : Below w.heap.size w w4 := by
        rw [hw4.out]
        exact HBE.out.trans (((Fr.refl (fun k => k = gS) wr).setCell gS i _ (.inl rfl)).below (fun x e => by subst e; exact HSS.out) HBE.out.size)
      have cS4 := hRow4.cell i _ (icells_get _ hlt)
      simp only [if_true] at cS4
      have hne : ∀ x ∈ F.U, x.num ≠ (i : Int) + 1 := fun x hx => by have := HNB.out.1 x hx; omega
      have HAdd := hid2 (fa_lay hFa4 (id := (i : Int) + 1) (s := 1 + m) (c := 3) (by omega) (by omega) hne (by decide) (by omega) (by have := HNB.out.2; omega))
      have hw1 : IntKind.u64.wrap ((i : Int) + 1) = (i : Int) + 1 := by rw [IntKind.wrap_u64]; omega
      have HR4 := hid2 hRow4
      have HG4 := hid2 hG4
      have HBe4 := hid2 hBe4
      clear hw4 hRow4 hG4 hFa4 hBe4 HSR HG HFa HBE hne cA cS fS
      go_wp2_with (first
        | (go_at_call 9; refine HAdd.out.mono ?_; rintro e w5 ⟨rfl, g, hm5, hMore⟩; have HM5 := hid2 hm5; have HMore := hid2 (hMore 1099511627776 (by decide) (by decide)); clear hm5 hMore HAdd)
        | (go_at_call 10; refine HMore.out.mono ?_; rintro e w6 ⟨rfl, hF6, hm6⟩; have HM6 := hid2 (HM5.out.trans hm6); have HF6 := hid2 hF6; clear hF6 hm6 HMore HM5))
      go_roundw
      case rel =>
        have hx := HBB.out.next HNB.out.1 (g := g) (s := 1 + m) (n := 1099511627776) HSH.out rfl
        refine ⟨i + 1, _, _, hlt, by go_num, HF6.out, hx.1, hx.2, by rw [lay_len, HNB.out.2], HM6.out.row _ _ _ HG4.out (by decide) (by decide) (by decide), HM6.out.row _ _ _ HR4.out (by decide) (by decide) (by decide), fun y h1 h2 => ?_, HBe4.out.trans HM6.out.below⟩
        by_cases e : y = (i : Int) + 1
        · rw [if_pos e, e, HSH.out]
        · rw [if_neg e]
          exact HFF.out y h1 (by omega)
      case measure => simp [intOf]; omega
    · obtain rfl : i = n := by omega
      have hii : ¬ (i : Int) < (i : Int) := by omega
      cases lower with
      | false =>
        go_upto_region 16 with fail
        refine wp_world ?_
        intro wL hwL
        obtain ⟨FL, hFL⟩ : ∃ FL, FL = F := ⟨_, rfl⟩
        have HFL : Hid (Fa w.heap.size wL p FL) := by show Fa _ _ _ _; rw [hwL.out, hFL]; exact HFa.out
        have HBL : Hid (ShB 3 Q i (shOf S) (fun _ => 1099511627776) FL) := by show ShB _ _ _ _ _ _; rw [hFL]; exact HBB.out
        have HGL : Hid (Row wL gG (icells i (fun _ => 0)) 3) := by show Row _ _ _ _; rw [hwL.out]; exact HG.out
        have HSL : Hid (Row wL gS (icells i f) 3) := by show Row _ _ _ _; rw [hwL.out]; exact HSR.out
        have HEL : Hid (Below w.heap.size w wL) := by show Below _ _ _; rw [hwL.out]; exact HBE.out
        clear hwL hFL HFa HBB HG HSR HBE
        have HIL : Hid (i = 0 ∨ ShI Q i (shOf S) (fun _ => 0) FL) := by
          by_cases h0 : i = 0
          · exact .inl h0
          · exact .inr (HBL.out.shares HFL.out.1 (by omega))
        clear HBL
        go_wp2_with fail
        obtain ⟨wo, hwo⟩ : ∃ wo, wo = wr := ⟨_, rfl⟩
        have hi20 : (i : Int) ≤ 20 := by have := HN.out; omega
        go_loopw [15] (fun s15 wq => ∃ (k : Nat) (F : Fs) (gv : Int → Int), k ≤ M.length ∧ k ≤ 5000 ∧ s15 = .int .i64 k ∧ Fa w.heap.size wq p F ∧ (i = 0 ∨ ShI Q i (shOf S) gv F) ∧ (∀ y, 0 ≤ gv y ∧ gv y ≤ 1048576 * (k : Int)) ∧ Row wq gG (icells i gv) 3 ∧ Row wq gS (icells i f) 3 ∧ Below w.heap.size w wq) (fun s _ => 5000 - (intOf s).toNat)
        case atStart => exact ⟨0, FL, fun _ => 0, Nat.zero_le _, Nat.zero_le _, rfl, HFL.out, HIL.out, fun _ => ⟨Int.le_refl _, Int.le_refl _⟩, HGL.out, HSL.out, HEL.out⟩
        case round =>
          obtain ⟨k, F2, gv, hk1, hk2, rfl, hFa, hI, hgv, hG, hSr, hBe⟩ := hrel
          have HFa := hid2 hFa
          have HI := hid2 hI
          have HGV := hid2 hgv
          have HG := hid2 hG
          have HSR := hid2 hSr
          have HBE := hid2 hBe
          have HK := hid2 (And.intro hk1 hk2)
          clear hFa hI hgv hG hSr hBe HFL HIL HGL HSL HEL hk1 hk2
          have hk5 : (k : Int) ≤ 5000 := by have := HK.out; omega
          by_cases hA : k < M.length
          · have hAI : (k : Int) < (M.length : Int) := by omega
            by_cases hB : k < 5000
            · have hBI : (k : Int) < 5000 := by omega
              have hBI' : (k : Int) ≤ 4999 := by omega
              by_cases hC : 0 < i
              · have hCI : (0 : Int) < (i : Int) := by omega
                have HSH : Hid (ShI Q i (shOf S) gv F2) := by
                  rcases HI.out with h0 | h0
                  · exact absurd h0 (by omega)
                  · exact h0
                obtain ⟨gA, oA, rfl, hcA⟩ := HM.out k hA
                have cA := cell_kept HBE.out hcA
                generalize M[k] = z at *
                have hwz : IntKind.u64.wrap z = z % 18446744073709551616 := IntKind.wrap_u64 z
                obtain ⟨u, hu⟩ : ∃ u, z % 18446744073709551616 = u := ⟨_, rfl⟩
                have hu0 : 0 ≤ u := by omega
                have hu1 : u ≤ 18446744073709551615 := by omega
                rw [hu] at hwz
                obtain ⟨m, hm⟩ : ∃ m, u % 1048576 = m := ⟨_, rfl⟩
                have hm0 : 0 ≤ m := by omega
                have hm1 : m ≤ 1048575 := by omega
                have hmt : u.tmod 1048576 = m := by rw [Int.tmod_eq_emod_of_nonneg hu0]; exact hm
                clear hu hcA
                obtain ⟨x, B, ht, hx1, hx2, hN1, hN2, hSt⟩ := HSH.out.step HFa.out.1 (most := 1 + m) (by omega) (by omega) (fun y _ _ => by have := HGV.out y; omega)
                have HNX := hid2 (fa_next HFa.out (most := 1 + m) (by omega) ht)
                obtain ⟨j, hj⟩ : ∃ j : Nat, x.num = (j : Int) + 1 := ⟨(x.num - 1).toNat, by omega⟩
                have hjl : j < i := by omega
                have hjI : (j : Int) ≤ 19 := by omega
                have HST := hid2 hSt
                rw [hj] at HNX
                rw [hj] at HST
                generalize x.tk F2.q (1 + m) = N at *
                generalize F2.next x (1 + m) B = F3 at *
                have hjw : IntKind.u64.wrap ((j : Int) + 1) = (j : Int) + 1 := by rw [IntKind.wrap_u64]; omega
                have hjw0 : IntKind.u64.wrap (j : Int) = (j : Int) := by rw [IntKind.wrap_u64]; omega
                have hiw : IntKind.u64.wrap (i : Int) = (i : Int) := by rw [IntKind.wrap_u64]; omega
                have hjl1 : ¬ (i : Int) < (j : Int) + 1 := by omega
                have hjl2 : (j : Int) < (i : Int) := by omega
                have hj0 : ¬ (j : Int) + 1 < 1 := by omega
                have hN3 : ¬ N < 1 := by omega
                have hN4 : ¬ 1 + m < N := by omega
                clear hSt ht HSH HI hx1 hx2 hj
                go_upto_region 21 with (go_at_call 11; refine HNX.out.mono ?_; rintro e w6 ⟨rfl, hF6, hm6⟩; have HF6 := hid2 hF6; have HM6 := hid2 hm6; clear hF6 hm6 HNX)
                refine wp_world ?_
                intro w7 hw7
                have hb7 : Below w6.heap.size w6 w7 := by rw [hw7.out]; exact below_box w6 _
                have RT : Row w7 w6.heap.size [.int .u64 ((j : Int) + 1), .int .i64 N] 31 := by rw [hw7.out]; exact Row.new w6 _ 31
                have g6 := HM6.out.row _ _ _ HG.out (by decide) (by decide) (by decide)
                have s6 := HM6.out.row _ _ _ HSR.out (by decide) (by decide) (by decide)
                have HGL7 := hid2 g6.lt
                have HG7 := hid2 (g6.kept hb7 g6.lt)
                have HS7 := hid2 (s6.kept hb7 s6.lt)
                have HF7 := hid2 (HF6.out.below hb7)
                have HB7 := hid2 ((HBE.out.trans HM6.out.below).trans (hb7.mono (HBE.out.trans HM6.out.below).size))
                have t0 := RT.cell 0 _ rfl
                have t1 := RT.cell 1 _ rfl
                have cg := HG7.out.cell j _ (icells_get gv hjl)
                have fg := HG7.out.frozen j
                have hgj := HGV.out ((j : Int) + 1)
                have hgj0 : 0 ≤ gv ((j : Int) + 1) := hgj.1
                have hgj1 : gv ((j : Int) + 1) ≤ 5242880000 := by omega
                have HGJ := hid2 hgj
                clear hgj
                have HPL : Hid (plusAt gv ((j : Int) + 1) N = fun y => if y = (j : Int) + 1 then gv ((j : Int) + 1) + N else gv y) := by
                  show _ = _
                  funext y
                  unfold plusAt
                  by_cases e : y = (j : Int) + 1
                  · rw [if_pos e, if_pos e, e]
                  · rw [if_neg e, if_neg e]
                obtain ⟨G0, hG0⟩ : ∃ G0, gv ((j : Int) + 1) = G0 := ⟨_, rfl⟩
                rw [hG0] at cg hgj0 hgj1 HGJ HPL
                have HG0 := hid2 hG0
                clear hw7 hb7 RT g6 s6 HF6 HM6 HG HSR HFa HBE hG0 cA
                go_upto_region 23 with fail
                go_region
                go_upto_region 24 with fail
                refine wp_world ?_
                intro w8 hw8
                have RG8 : Row w8 gG (icells i (plusAt gv ((j : Int) + 1) N)) 3 := by
                  rw [hw8.out, HPL.out, ← icells_set]
                  exact (HG7.out.set j _).drew 1
                have RS8 : Row w8 gS (icells i f) 3 := by
                  rw [hw8.out]
                  exact (HS7.out.setOther ⟨gG, j, none⟩ (fun e => HGS.out e.symm) _).drew 1
                have F8 : Fa w.heap.size w8 p F3 := by
                  rw [hw8.out]
                  exact (HF7.out.setOther HG7.out (by decide) (by decide) (by decide) j _).below (below_drewN (Below.refl _ _) 1)
                have B8 : Below w.heap.size w w8 := by
                  rw [hw8.out]
                  exact HB7.out.trans ((((Fr.refl (fun k => k = gG) w7).setCell gG j _ (.inl rfl)).drewN 1).below (fun x e => by subst e; exact HGG.out) HB7.out.size)
                have HGV' : Hid (∀ y, 0 ≤ plusAt gv ((j : Int) + 1) N y ∧ plusAt gv ((j : Int) + 1) N y ≤ 1048576 * ((k + 1 : Nat) : Int)) := fun y => by
                  have q1 := HGV.out y
                  unfold plusAt
                  split <;> omega
                have HRG8 := hid2 RG8
                have HRS8 := hid2 RS8
                have HF8 := hid2 F8
                have HB8 := hid2 B8
                obtain ⟨r, hr0, hrb⟩ := HST.out.bd F8.1 (fun y _ _ => by have := HGV'.out y; omega)
                have HRB := hid2 hrb
                clear RG8 RS8 F8 B8 hw8 HG7 HS7 HF7 HB7 t0 t1 cg fg HPL HG0 hrb
                generalize plusAt gv ((j : Int) + 1) N = gw at *
                go_wp2_with fail
                obtain ⟨wo2, hwo2⟩ : ∃ wo, wo = wr := ⟨_, rfl⟩
                go_loopw [19] (fun s19 wx => ∃ (a : Nat), a ≤ i ∧ s19 = .int .i64 a ∧ Below w8.heap.size w8 wx) (fun s _ => i - (intOf s).toNat)
                case atStart => exact ⟨0, Nat.zero_le _, rfl, Below.refl _ _⟩
                case round =>
                  obtain ⟨a, ha, rfl, hbx⟩ := hrel
                  have HBX := hid2 hbx
                  clear hbx
                  by_cases hai : a < i
                  · have haI : (a : Int) < (i : Int) := by omega
                    go_wp2_with fail
                    obtain ⟨wo3, hwo3⟩ : ∃ wo, wo = wr := ⟨_, rfl⟩
                    go_loopw [20] (fun s20 wy => ∃ (c : Nat), c ≤ i ∧ s20 = .int .i64 c ∧ Below w8.heap.size w8 wy) (fun s _ => i - (intOf s).toNat)
                    case atStart => exact ⟨0, Nat.zero_le _, rfl, HBX.out⟩
                    case round =>
                      obtain ⟨c, hc, rfl, hby⟩ := hrel
                      have HBY := hid2 hby
                      clear hby
                      by_cases hci : c < i
                      · have hcI : (c : Int) < (i : Int) := by omega
                        have rg := HRG8.out.kept HBY.out HRG8.out.lt
                        have rs := HRS8.out.kept HBY.out HRS8.out.lt
                        have ga := rg.cell a _ (icells_get gw hai)
                        have gc := rg.cell c _ (icells_get gw hci)
                        have sa := rs.cell a _ (icells_get f hai)
                        have sc := rs.cell c _ (icells_get f hci)
                        rw [HFF.out _ (by omega) (by omega)] at sa sc
                        have ba := HRB.out ((a : Int) + 1) (by omega) (by omega)
                        have bc := HRB.out ((c : Int) + 1) (by omega) (by omega)
                        have za := HGV'.out ((a : Int) + 1)
                        have zc := HGV'.out ((c : Int) + 1)
                        have HLW := hid2 (share_law ba.2.1 bc.1 ba.2.2.1 bc.2.2.1)
                        generalize gw ((a : Int) + 1) = A at *
                        generalize gw ((c : Int) + 1) = E at *
                        generalize shOf S ((a : Int) + 1) = sA at *
                        generalize shOf S ((c : Int) + 1) = sC at *
                        have hA0 : 0 ≤ A ∧ A ≤ 5243928576 := by omega
                        have hE0 : 0 ≤ E ∧ E ≤ 5243928576 := by omega
                        have hsA : 1 ≤ sA ∧ sA ≤ 255 := ⟨ba.2.2.1, ba.2.2.2⟩
                        have hsC : 1 ≤ sC ∧ sC ≤ 255 := ⟨bc.2.2.1, bc.2.2.2⟩
                        have p1 := prod_bd hA0 ⟨by omega, hsC.2⟩
                        have p2 := prod_bd hE0 ⟨by omega, hsA.2⟩
                        have p3 := prod_bd (show 0 ≤ Q ∧ Q ≤ 65536 by have := HQ.out; omega) (show 0 ≤ sA ∧ sA ≤ 255 by omega)
                        have p4 := prod_bd (show 0 ≤ Q * sA ∧ Q * sA ≤ 16711680 by omega) (show 0 ≤ sC ∧ sC ≤ 255 by omega)
                        obtain ⟨P1, e1⟩ : ∃ P, A * sC = P := ⟨_, rfl⟩
                        obtain ⟨P2, e2⟩ : ∃ P, E * sA = P := ⟨_, rfl⟩
                        obtain ⟨P3, e3⟩ : ∃ P, Q * sA = P := ⟨_, rfl⟩
                        rw [e3] at p4 HLW
                        obtain ⟨P4, e4⟩ : ∃ P, P3 * sC = P := ⟨_, rfl⟩
                        rw [e1] at p1 HLW
                        rw [e2] at p2 HLW
                        rw [e3] at p3
                        rw [e4] at p4 HLW
                        have b10 : 0 ≤ P1 := p1.1
                        have b11 : P1 ≤ 1337201786880 := by omega
                        have b20 : 0 ≤ P2 := p2.1
                        have b21 : P2 ≤ 1337201786880 := by omega
                        have b30 : 0 ≤ P3 := p3.1
                        have b31 : P3 ≤ 16711680 := by omega
                        have b40 : 0 ≤ P4 := p4.1
                        have b41 : P4 ≤ 4261478400 := by omega
                        have hfin : ¬ P4 < P1 - P2 := by have := HLW.out; omega
                        clear p1 p2 p3 p4 rg rs ba bc za zc hA0 hE0 hsA hsC HLW
                        go_upto_region 30 with fail
                        go_quiet (fail)
                        go_wp2_with fail
                        go_roundw
                        case rel => exact ⟨c + 1, hci, by go_num, below_drewN HBY.out _⟩
                        case measure => simp [intOf]; omega
                      · have hcI : ¬ (c : Int) < (i : Int) := by omega
                        go_wp2_with fail
                        go_roundw
                        case rel => exact ⟨a + 1, hai, by go_num, HBY.out⟩
                        case measure => simp [intOf]; omega
                  · have haI : ¬ (a : Int) < (i : Int) := by omega
                    go_wp2_with fail
                    go_roundw
                    case rel =>
                      refine ⟨k + 1, F3, gw, by have := HK.out; omega, by have := HK.out; omega, by go_num, HF8.out.below HBX.out, .inr HST.out, HGV'.out, HRG8.out.kept HBX.out HRG8.out.lt, HRS8.out.kept HBX.out HRS8.out.lt, HB8.out.trans (HBX.out.mono HB8.out.size)⟩
                    case measure => simp [intOf]; omega
              · have hCI : ¬ (0 : Int) < (i : Int) := by omega
                go_wp2_with fail
                go_ret
                exact ⟨rfl, HBE.out⟩
            · have hBI : ¬ (k : Int) < 5000 := by omega
              go_wp2_with fail
              go_ret
              exact ⟨rfl, HBE.out⟩
          · have hAI : ¬ (k : Int) < (M.length : Int) := by omega
            go_wp2_with fail
            go_ret
            exact ⟨rfl, HBE.out⟩
      | true =>
        have hne : ∀ x ∈ F.U, x.num ≠ 99 := fun x hx => by have := HNB.out.1 x hx; have := HN.out; omega
        have HAdd := hid2 (fa_lay HFa.out (id := 99) (s := 200) (c := 5) (by decide) (by decide) hne (by decide) (by decide) (by have := HNB.out.2; have := HN.out; omega))
        have HNE := hid2 hne
        clear hne
        go_upto_region 16 with (first
          | (go_at_call 9; refine HAdd.out.mono ?_; rintro e w5 ⟨rfl, g, hm5, hMore⟩; have HM5 := hid2 hm5; have HMore := hid2 (hMore 1000 (by decide) (by decide)); clear hm5 hMore HAdd)
          | (go_at_call 10; refine HMore.out.mono ?_; rintro e wL ⟨rfl, hF6, hm6⟩; have HM6 := hid2 (HM5.out.trans hm6); have HFL := hid2 hF6; clear hF6 hm6 HMore HM5))
        have HBL : Hid (ShB 3 Q i (shOf S) (fun _ => 1099511627776) (F.lay 99 g 5 200 1000)) := HBB.out.beside (by decide) HNE.out
        generalize F.lay 99 g 5 200 1000 = FL at *
        have HGL := hid2 (HM6.out.row _ _ _ HG.out (by decide) (by decide) (by decide))
        have HSL := hid2 (HM6.out.row _ _ _ HSR.out (by decide) (by decide) (by decide))
        have HEL := hid2 (HBE.out.trans HM6.out.below)
        clear HFa HBB HG HSR HBE HM6
        have HIL : Hid (i = 0 ∨ ShI Q i (shOf S) (fun _ => 0) FL) := by
          by_cases h0 : i = 0
          · exact .inl h0
          · exact .inr (HBL.out.shares HFL.out.1 (by omega))
        clear HBL
        go_wp2_with fail
        obtain ⟨wo, hwo⟩ : ∃ wo, wo = wr := ⟨_, rfl⟩
        have hi20 : (i : Int) ≤ 20 := by have := HN.out; omega
        go_loopw [15] (fun s15 wq => ∃ (k : Nat) (F : Fs) (gv : Int → Int), k ≤ M.length ∧ k ≤ 5000 ∧ s15 = .int .i64 k ∧ Fa w.heap.size wq p F ∧ (i = 0 ∨ ShI Q i (shOf S) gv F) ∧ (∀ y, 0 ≤ gv y ∧ gv y ≤ 1048576 * (k : Int)) ∧ Row wq gG (icells i gv) 3 ∧ Row wq gS (icells i f) 3 ∧ Below w.heap.size w wq) (fun s _ => 5000 - (intOf s).toNat)
        case atStart => exact ⟨0, FL, fun _ => 0, Nat.zero_le _, Nat.zero_le _, rfl, HFL.out, HIL.out, fun _ => ⟨Int.le_refl _, Int.le_refl _⟩, HGL.out, HSL.out, HEL.out⟩
        case round =>
          obtain ⟨k, F2, gv, hk1, hk2, rfl, hFa, hI, hgv, hG, hSr, hBe⟩ := hrel
          have HFa := hid2 hFa
          have HI := hid2 hI
          have HGV := hid2 hgv
          have HG := hid2 hG
          have HSR := hid2 hSr
          have HBE := hid2 hBe
          have HK := hid2 (And.intro hk1 hk2)
          clear hFa hI hgv hG hSr hBe HFL HIL HGL HSL HEL hk1 hk2
          have hk5 : (k : Int) ≤ 5000 := by have := HK.out; omega
          by_cases hA : k < M.length
          · have hAI : (k : Int) < (M.length : Int) := by omega
            by_cases hB : k < 5000
            · have hBI : (k : Int) < 5000 := by omega
              have hBI' : (k : Int) ≤ 4999 := by omega
              by_cases hC : 0 < i
              · have hCI : (0 : Int) < (i : Int) := by omega
                have HSH : Hid (ShI Q i (shOf S) gv F2) := by
                  rcases HI.out with h0 | h0
                  · exact absurd h0 (by omega)
                  · exact h0
                obtain ⟨gA, oA, rfl, hcA⟩ := HM.out k hA
                have cA := cell_kept HBE.out hcA
                generalize M[k] = z at *
                have hwz : IntKind.u64.wrap z = z % 18446744073709551616 := IntKind.wrap_u64 z
                obtain ⟨u, hu⟩ : ∃ u, z % 18446744073709551616 = u := ⟨_, rfl⟩
                have hu0 : 0 ≤ u := by omega
                have hu1 : u ≤ 18446744073709551615 := by omega
                rw [hu] at hwz
                obtain ⟨m, hm⟩ : ∃ m, u % 1048576 = m := ⟨_, rfl⟩
                have hm0 : 0 ≤ m := by omega
                have hm1 : m ≤ 1048575 := by omega
                have hmt : u.tmod 1048576 = m := by rw [Int.tmod_eq_emod_of_nonneg hu0]; exact hm
                clear hu hcA
                obtain ⟨x, B, ht, hx1, hx2, hN1, hN2, hSt⟩ := HSH.out.step HFa.out.1 (most := 1 + m) (by omega) (by omega) (fun y _ _ => by have := HGV.out y; omega)
                have HNX := hid2 (fa_next HFa.out (most := 1 + m) (by omega) ht)
                obtain ⟨j, hj⟩ : ∃ j : Nat, x.num = (j : Int) + 1 := ⟨(x.num - 1).toNat, by omega⟩
                have hjl : j < i := by omega
                have hjI : (j : Int) ≤ 19 := by omega
                have HST := hid2 hSt
                rw [hj] at HNX
                rw [hj] at HST
                generalize x.tk F2.q (1 + m) = N at *
                generalize F2.next x (1 + m) B = F3 at *
                have hjw : IntKind.u64.wrap ((j : Int) + 1) = (j : Int) + 1 := by rw [IntKind.wrap_u64]; omega
                have hjw0 : IntKind.u64.wrap (j : Int) = (j : Int) := by rw [IntKind.wrap_u64]; omega
                have hiw : IntKind.u64.wrap (i : Int) = (i : Int) := by rw [IntKind.wrap_u64]; omega
                have hjl1 : ¬ (i : Int) < (j : Int) + 1 := by omega
                have hjl2 : (j : Int) < (i : Int) := by omega
                have hj0 : ¬ (j : Int) + 1 < 1 := by omega
                have hN3 : ¬ N < 1 := by omega
                have hN4 : ¬ 1 + m < N := by omega
                clear hSt ht HSH HI hx1 hx2 hj
                go_upto_region 21 with (go_at_call 11; refine HNX.out.mono ?_; rintro e w6 ⟨rfl, hF6, hm6⟩; have HF6 := hid2 hF6; have HM6 := hid2 hm6; clear hF6 hm6 HNX)
                refine wp_world ?_
                intro w7 hw7
                have hb7 : Below w6.heap.size w6 w7 := by rw [hw7.out]; exact below_box w6 _
                have RT : Row w7 w6.heap.size [.int .u64 ((j : Int) + 1), .int .i64 N] 31 := by rw [hw7.out]; exact Row.new w6 _ 31
                have g6 := HM6.out.row _ _ _ HG.out (by decide) (by decide) (by decide)
                have s6 := HM6.out.row _ _ _ HSR.out (by decide) (by decide) (by decide)
                have HGL7 := hid2 g6.lt
                have HG7 := hid2 (g6.kept hb7 g6.lt)
                have HS7 := hid2 (s6.kept hb7 s6.lt)
                have HF7 := hid2 (HF6.out.below hb7)
                have HB7 := hid2 ((HBE.out.trans HM6.out.below).trans (hb7.mono (HBE.out.trans HM6.out.below).size))
                have t0 := RT.cell 0 _ rfl
                have t1 := RT.cell 1 _ rfl
                have cg := HG7.out.cell j _ (icells_get gv hjl)
                have fg := HG7.out.frozen j
                have hgj := HGV.out ((j : Int) + 1)
                have hgj0 : 0 ≤ gv ((j : Int) + 1) := hgj.1
                have hgj1 : gv ((j : Int) + 1) ≤ 5242880000 := by omega
                have HGJ := hid2 hgj
                clear hgj
                have HPL : Hid (plusAt gv ((j : Int) + 1) N = fun y => if y = (j : Int) + 1 then gv ((j : Int) + 1) + N else gv y) := by
                  show _ = _
                  funext y
                  unfold plusAt
                  by_cases e : y = (j : Int) + 1
                  · rw [if_pos e, if_pos e, e]
                  · rw [if_neg e, if_neg e]
                obtain ⟨G0, hG0⟩ : ∃ G0, gv ((j : Int) + 1) = G0 := ⟨_, rfl⟩
                rw [hG0] at cg hgj0 hgj1 HGJ HPL
                have HG0 := hid2 hG0
                clear hw7 hb7 RT g6 s6 HF6 HM6 HG HSR HFa HBE hG0 cA
                go_upto_region 23 with fail
                go_region
                go_upto_region 24 with fail
                refine wp_world ?_
                intro w8 hw8
                have RG8 : Row w8 gG (icells i (plusAt gv ((j : Int) + 1) N)) 3 := by
                  rw [hw8.out, HPL.out, ← icells_set]
                  exact (HG7.out.set j _).drew 1
                have RS8 : Row w8 gS (icells i f) 3 := by
                  rw [hw8.out]
                  exact (HS7.out.setOther ⟨gG, j, none⟩ (fun e => HGS.out e.symm) _).drew 1
                have F8 : Fa w.heap.size w8 p F3 := by
                  rw [hw8.out]
                  exact (HF7.out.setOther HG7.out (by decide) (by decide) (by decide) j _).below (below_drewN (Below.refl _ _) 1)
                have B8 : Below w.heap.size w w8 := by
                  rw [hw8.out]
                  exact HB7.out.trans ((((Fr.refl (fun k => k = gG) w7).setCell gG j _ (.inl rfl)).drewN 1).below (fun x e => by subst e; exact HGG.out) HB7.out.size)
                have HGV' : Hid (∀ y, 0 ≤ plusAt gv ((j : Int) + 1) N y ∧ plusAt gv ((j : Int) + 1) N y ≤ 1048576 * ((k + 1 : Nat) : Int)) := fun y => by
                  have q1 := HGV.out y
                  unfold plusAt
                  split <;> omega
                have HRG8 := hid2 RG8
                have HRS8 := hid2 RS8
                have HF8 := hid2 F8
                have HB8 := hid2 B8
                obtain ⟨r, hr0, hrb⟩ := HST.out.bd F8.1 (fun y _ _ => by have := HGV'.out y; omega)
                have HRB := hid2 hrb
                clear RG8 RS8 F8 B8 hw8 HG7 HS7 HF7 HB7 t0 t1 cg fg HPL HG0 hrb
                generalize plusAt gv ((j : Int) + 1) N = gw at *
                go_wp2_with fail
                obtain ⟨wo2, hwo2⟩ : ∃ wo, wo = wr := ⟨_, rfl⟩
                go_loopw [19] (fun s19 wx => ∃ (a : Nat), a ≤ i ∧ s19 = .int .i64 a ∧ Below w8.heap.size w8 wx) (fun s _ => i - (intOf s).toNat)
                case atStart => exact ⟨0, Nat.zero_le _, rfl, Below.refl _ _⟩
                case round =>
                  obtain ⟨a, ha, rfl, hbx⟩ := hrel
                  have HBX := hid2 hbx
                  clear hbx
                  by_cases hai : a < i
                  · have haI : (a : Int) < (i : Int) := by omega
                    go_wp2_with fail
                    obtain ⟨wo3, hwo3⟩ : ∃ wo, wo = wr := ⟨_, rfl⟩
                    go_loopw [20] (fun s20 wy => ∃ (c : Nat), c ≤ i ∧ s20 = .int .i64 c ∧ Below w8.heap.size w8 wy) (fun s _ => i - (intOf s).toNat)
                    case atStart => exact ⟨0, Nat.zero_le _, rfl, HBX.out⟩
                    case round =>
                      obtain ⟨c, hc, rfl, hby⟩ := hrel
                      have HBY := hid2 hby
                      clear hby
                      by_cases hci : c < i
                      · have hcI : (c : Int) < (i : Int) := by omega
                        have rg := HRG8.out.kept HBY.out HRG8.out.lt
                        have rs := HRS8.out.kept HBY.out HRS8.out.lt
                        have ga := rg.cell a _ (icells_get gw hai)
                        have gc := rg.cell c _ (icells_get gw hci)
                        have sa := rs.cell a _ (icells_get f hai)
                        have sc := rs.cell c _ (icells_get f hci)
                        rw [HFF.out _ (by omega) (by omega)] at sa sc
                        have ba := HRB.out ((a : Int) + 1) (by omega) (by omega)
                        have bc := HRB.out ((c : Int) + 1) (by omega) (by omega)
                        have za := HGV'.out ((a : Int) + 1)
                        have zc := HGV'.out ((c : Int) + 1)
                        have HLW := hid2 (share_law ba.2.1 bc.1 ba.2.2.1 bc.2.2.1)
                        generalize gw ((a : Int) + 1) = A at *
                        generalize gw ((c : Int) + 1) = E at *
                        generalize shOf S ((a : Int) + 1) = sA at *
                        generalize shOf S ((c : Int) + 1) = sC at *
                        have hA0 : 0 ≤ A ∧ A ≤ 5243928576 := by omega
                        have hE0 : 0 ≤ E ∧ E ≤ 5243928576 := by omega
                        have hsA : 1 ≤ sA ∧ sA ≤ 255 := ⟨ba.2.2.1, ba.2.2.2⟩
                        have hsC : 1 ≤ sC ∧ sC ≤ 255 := ⟨bc.2.2.1, bc.2.2.2⟩
                        have p1 := prod_bd hA0 ⟨by omega, hsC.2⟩
                        have p2 := prod_bd hE0 ⟨by omega, hsA.2⟩
                        have p3 := prod_bd (show 0 ≤ Q ∧ Q ≤ 65536 by have := HQ.out; omega) (show 0 ≤ sA ∧ sA ≤ 255 by omega)
                        have p4 := prod_bd (show 0 ≤ Q * sA ∧ Q * sA ≤ 16711680 by omega) (show 0 ≤ sC ∧ sC ≤ 255 by omega)
                        obtain ⟨P1, e1⟩ : ∃ P, A * sC = P := ⟨_, rfl⟩
                        obtain ⟨P2, e2⟩ : ∃ P, E * sA = P := ⟨_, rfl⟩
                        obtain ⟨P3, e3⟩ : ∃ P, Q * sA = P := ⟨_, rfl⟩
                        rw [e3] at p4 HLW
                        obtain ⟨P4, e4⟩ : ∃ P, P3 * sC = P := ⟨_, rfl⟩
                        rw [e1] at p1 HLW
                        rw [e2] at p2 HLW
                        rw [e3] at p3
                        rw [e4] at p4 HLW
                        have b10 : 0 ≤ P1 := p1.1
                        have b11 : P1 ≤ 1337201786880 := by omega
                        have b20 : 0 ≤ P2 := p2.1
                        have b21 : P2 ≤ 1337201786880 := by omega
                        have b30 : 0 ≤ P3 := p3.1
                        have b31 : P3 ≤ 16711680 := by omega
                        have b40 : 0 ≤ P4 := p4.1
                        have b41 : P4 ≤ 4261478400 := by omega
                        have hfin : ¬ P4 < P1 - P2 := by have := HLW.out; omega
                        clear p1 p2 p3 p4 rg rs ba bc za zc hA0 hE0 hsA hsC HLW
                        go_upto_region 30 with fail
                        go_quiet (fail)
                        go_wp2_with fail
                        go_roundw
                        case rel => exact ⟨c + 1, hci, by go_num, below_drewN HBY.out _⟩
                        case measure => simp [intOf]; omega
                      · have hcI : ¬ (c : Int) < (i : Int) := by omega
                        go_wp2_with fail
                        go_roundw
                        case rel => exact ⟨a + 1, hai, by go_num, HBY.out⟩
                        case measure => simp [intOf]; omega
                  · have haI : ¬ (a : Int) < (i : Int) := by omega
                    go_wp2_with fail
                    go_roundw
                    case rel =>
                      refine ⟨k + 1, F3, gw, by have := HK.out; omega, by have := HK.out; omega, by go_num, HF8.out.below HBX.out, .inr HST.out, HGV'.out, HRG8.out.kept HBX.out HRG8.out.lt, HRS8.out.kept HBX.out HRS8.out.lt, HB8.out.trans (HBX.out.mono HB8.out.size)⟩
                    case measure => simp [intOf]; omega
              · have hCI : ¬ (0 : Int) < (i : Int) := by omega
                go_wp2_with fail
                go_ret
                exact ⟨rfl, HBE.out⟩
            · have hBI : ¬ (k : Int) < 5000 := by omega
              go_wp2_with fail
              go_ret
              exact ⟨rfl, HBE.out⟩
          · have hAI : ¬ (k : Int) < (M.length : Int) := by omega
            go_wp2_with fail
            go_ret
            exact ⟨rfl, HBE.out⟩
end Go.Proofs.Ytjeokomocopjhaa
