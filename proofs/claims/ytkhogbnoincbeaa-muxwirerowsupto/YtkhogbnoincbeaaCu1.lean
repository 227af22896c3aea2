import Derived.Test.YtkhogbnoincbeaaCu0
namespace Go.Proofs.Ytkhogbnoincbeaa
open Go.RowKit Go.Maps Go.Sort
set_option maxRecDepth 100000

def IntsAt (w : World) (a : Option Addr) (l : List Int) : Prop := ∀ k (h : k < l.length), ∃ g o, a = some ⟨g, o, none⟩ ∧ w.cell? ⟨g, o + k, none⟩ = some (.int .i64 l[k])
theorem bytes_front {w : World} {a : Option Addr} {l : List (BitVec 8)} (h : BytesAt w a l) (n : Nat) : BytesAt w a (l.take n) := fun k hk => by
  have hk2 : k < l.length := by rw [List.length_take] at hk; omega
  obtain ⟨g, o, e, c⟩ := h k hk2
  refine ⟨g, o, e, ?_⟩
  rw [List.getElem_take]
  exact c
theorem bytes_back {w : World} {g o : Nat} {l : List (BitVec 8)} (h : BytesAt w (some ⟨g, o, none⟩) l) (n : Nat) : BytesAt w (some ⟨g, o + n, none⟩) (l.drop n) := fun k hk => by
  have hk2 : n + k < l.length := by rw [List.length_drop] at hk; omega
  obtain ⟨g', o', e, c⟩ := h (n + k) hk2
  cases e
  refine ⟨g, o + n, rfl, ?_⟩
  rw [List.getElem_drop, Nat.add_assoc]
  exact c
theorem copy_slice {w : World} {a : Option Addr} {n cap : Nat} {bs : List (BitVec 8)} (hB : BytesAt w a bs) (hn : bs.length = n) (hz : a = none → cap = 0) (hl : n ≤ 140737488355328) :
    Calls Try.prog 9 #[.slice a n cap] w fun e w' => ∃ ax cx, e = .returned (.slice ax n cx) ∧ OwnBy w' w.heap.size (.slice ax n cx) bs ∧ Below w.heap.size w w' := by
  refine (copy_any hB hn hz hl).mono ?_
  rintro e w' ⟨v, rfl, ho, hb⟩
  obtain ⟨ax, cx, rfl, -⟩ := ownBy_shape ho
  subst hn
  exact ⟨ax, cx, rfl, ho, hb⟩
theorem own_base {w : World} {B B2 : Nat} {v : Value} {l : List (BitVec 8)} (h : OwnBy w B v l) (hB : B2 ≤ B) : OwnBy w B2 v l :=
  ⟨h.1, h.2.imp id fun ⟨g, cap, cur, h1, h2, h3⟩ => ⟨g, cap, cur, h1, Nat.le_trans hB h2, h3⟩⟩
/-- What is left to be cut, and the pieces that were made. -/
structure CuS (w : World) (b : List (BitVec 8)) (k : Nat) (s5 : Value) (ar : Option Addr) (rb : List (BitVec 8)) (cr : Nat) (W : World) : Prop where
  pc : ∃ Qs, PcL W w.heap.size s5 Qs ∧ Qs.length = k ∧ (Qs.map (·.2)).flatten ++ rb = b
  by_ : BytesAt w ar rb
  lc : rb.length ≤ cr
  cm : cr ≤ maxLen
  z : ar = none → cr = 0
  be : Below w.heap.size w W
section
variable {w W W' : World} {b rb : List (BitVec 8)} {k : Nat} {s5 : Value} {ar : Option Addr} {cr : Nat}
theorem CuS.kept (h : CuS w b k s5 ar rb cr W) (hb : Below W.heap.size W W') : CuS w b k s5 ar rb cr W' := by
  obtain ⟨⟨Qs, h1, h2, h3⟩, h4, h5, h6, h7, h9⟩ := h
  exact ⟨⟨Qs, h1.kept hb, h2, h3⟩, h4, h5, h6, h7, h9.trans (hb.mono h9.size)⟩
theorem CuS.len (h : CuS w b k s5 ar rb cr W) : rb.length ≤ b.length := by
  obtain ⟨⟨Qs, _, _, h3⟩, _⟩ := h
  rw [← h3, List.length_append]
  omega
/-- One piece more: x lies in new memory; the rest lies at ar2. -/
theorem CuS.push (h : CuS w b k s5 ar rb cr W) (hk : k ≤ 1048577) {J : Nat} (_ : J ≤ rb.length) {v : Value} (hv : OwnBy W w.heap.size v (rb.take J)) {bx : Nat} (hb : Row W bx [v] 23) :
    ∃ v' w', (Builtin.append_ #[44, 44] 44 #[s5, .slice (some ⟨bx, 0, none⟩) 1 1]).run Try.prog W = .ok v' w' ∧ (∃ Qs, PcL w' w.heap.size v' Qs ∧ Qs.length = k + 1 ∧ (Qs.map (·.2)).flatten ++ rb.drop J = b) ∧ Below w.heap.size w w' := by
  obtain ⟨⟨Qs, h1, h2, h3⟩, h4, h5, h6, h7, h9⟩ := h
  obtain ⟨v', w', hr, hp, hf⟩ := push_pc h1 h9.size (by omega) (x := (v, rb.take J)) hv hb 44
  refine ⟨v', w', hr, ⟨_, hp, by simp [h2], ?_⟩, h9.trans (hf.below (fun _ e => e) h9.size)⟩
  rw [List.map_append, List.flatten_append]
  simp only [List.map_cons, List.map_nil, List.flatten_cons, List.flatten_nil, List.append_nil]
  rw [List.append_assoc, List.take_append_drop, h3]
end
/-- A row of frames, to be looked at. -/
def LkA (w : World) (a : Option Addr) (G : List PF) : Prop := ∀ i (hi : i < G.length), ∃ g ax cx, a = some ⟨g, 0, none⟩ ∧ BytesAt w ax G[i].bs ∧ ∀ j u, (pcells (G[i], .slice ax G[i].bs.length cx))[j]? = some u → w.cell? ⟨g, i * 6 + j, none⟩ = some u
theorem LkA.kept {w w' : World} {a : Option Addr} {G : List PF} (h : LkA w a G) (hb : Below w.heap.size w w') : LkA w' a G := fun i hi => by
  obtain ⟨g, ax, cx, h1, h2, h3⟩ := h i hi
  exact ⟨g, ax, cx, h1, h2.kept hb, fun j u hu => cell_kept hb (h3 j u hu)⟩
theorem FrV.look {w : World} {B : Nat} {v : Value} {Ps : List (PF × Value)} {G : List PF} (h : FrV w B v Ps) (hm : Ps.map (·.1) = G) : ∃ a c, v = .slice a G.length c ∧ LkA w a G := by
  subst hm
  obtain ⟨a, c, e, hh⟩ := h.at
  refine ⟨a, c, by rw [e, List.length_map], fun i hi => ?_⟩
  have hi' : i < Ps.length := by simpa using hi
  obtain ⟨g, ax, cx, h1, h2, h3, h4⟩ := hh i hi'
  simp only [List.getElem_map]
  exact ⟨g, ax, cx, h1, h3, fun j u hu => h4 j u (by rw [← hu]; unfold pcells; rw [h2])⟩
theorem lall_look {w : World} {a : Option Addr} {Ts : List (List (BitVec 8))} {n c : Nat} {b : List (BitVec 8)} (hn : Ts.length = n) (hP : PcsAt w a Ts) (late : Bool) (hb : Ts.flatten = b) (hT : b.length ≤ 1048576) (hl : n ≤ 2097152) :
    Calls Try.prog 19 #[.slice a n c, .bool late] w fun e w' => ∃ (a2 : Option Addr) (c2 lf : Nat), e = .returned (.tuple #[.slice a2 (Pr b).1.length c2, .int .i64 (Pr b).2.1, .int .u64 ((b.length - (Pr b).2.2.length : Nat) : Int), .int .i64 (lf : Int)]) ∧ LkA w' a2 (Pr b).1 ∧ Below w.heap.size w w' := by
  subst hb
  refine (lall_any hn hP late (by omega) (by omega)).mono ?_
  rintro e w' ⟨v, lf, rfl, _, ⟨Ps, hF, hm⟩, hB⟩
  obtain ⟨a2, c2, rfl, hL⟩ := hF.look hm
  exact ⟨a2, c2, lf, rfl, hL, hB⟩
theorem one_pcs {w : World} {bx : Nat} {ax : Option Addr} {n cx B : Nat} {b : List (BitVec 8)} (hr : Row w bx [.slice ax n cx] 23) (ho : OwnBy w B (.slice ax n cx) b) : PcsAt w (some ⟨bx, 0, none⟩) [b] := fun i hi => by
  obtain rfl : i = 0 := by simpa using hi
  obtain ⟨a', c', e1, e2, e3, e4, e5, _⟩ := ownBy_shape ho
  cases e1
  exact ⟨bx, 0, ax, cx, rfl, hr.cell 0 _ rfl, e2, e5⟩
theorem Pr_cnt : ∀ (n : Nat) (l : List (BitVec 8)), l.length < n → (Pr l).1.length ≤ l.length
  | 0, _, h => absurd h (Nat.not_lt_zero _)
  | n + 1, l, h => by
    by_cases h0 : (allA PF.zero l).1 = 0
    · have hp := A_pos h0
      have ih := Pr_cnt n (allA PF.zero l).2.2 (by omega)
      rw [Pr_one h0]
      simp only [List.length_cons]
      omega
    · by_cases h1 : (allA PF.zero l).1 = 174
      · rw [Pr_short h1]; exact Nat.zero_le _
      · rw [Pr_bad h0 h1]; exact Nat.zero_le _
theorem bsl48 (w : World) (x y : Bool) : (Instr.buildSlice 48 2 #[(0, .bool x), (1, .bool y)]).run Try.prog w = .ok (.slice (some ⟨w.heap.size, 0, none⟩) 2 2) (w.alloc (.cells #[.bool x, .bool y] 4)) := by kernel_rfl
set_option maxHeartbeats 16000000 in
theorem cuts_law (w : World) (a : Option Addr) (b : List (BitVec 8)) (L cap : Nat) (hB : BytesAt w a b) (hL : b.length = L) (hc : L ≤ cap) (hm : cap ≤ maxLen) (hz : a = none → cap = 0) (hl : L ≤ 1048576) {a1 : Option Addr} {cs : List Int} (c1 : Nat) (hC : IntsAt w a1 cs) (hl1 : cs.length ≤ 1048576) :
    Calls Try.prog 7 #[.slice a L cap, .slice a1 cs.length c1] w fun e w' => e = .returned (.bool true) ∧ Below w.heap.size w w' := by
  subst hL
  have HAW := hid (awake_any w)
  have HB := hid hB
  have HC := hid hC
  have HZ := hid hz
  have HCP := hid (And.intro hc hm)
  have HL := hid hl
  have hli : (cs.length : Int) ≤ 1048576 := by omega
  have HS0 : Hid (∀ W, Below w.heap.size w W → CuS w b 0 (.slice none 0 0) a b cap W) := fun W hW => ⟨⟨[], ⟨⟨rfl, .inl ⟨rfl, rfl⟩⟩, fun x hx => (by cases hx)⟩, rfl, rfl⟩, hB, hc, hm, hz, hW⟩
  have hbs := bsl23
  clear hB hC hz hc hm hl
  go_enter Try.func7, Try.ntmps7
  go_upto_region 5 with (go_at_call 17; refine HAW.out.mono ?_; rintro e w1 ⟨rfl, hb1⟩; have HS1 := hid (HS0.out _ hb1); clear hb1 HAW HS0)
  go_wp2_with fail
  go_loopw [5, 6, 26] (fun s5 s6 s26 wr => ∃ (k : Nat) (ar : Option Addr) (rb : List (BitVec 8)) (cr : Nat), k ≤ cs.length ∧ s26 = .int .i64 k ∧ s6 = .slice ar rb.length cr ∧ CuS w b k s5 ar rb cr wr) (fun _ _ s _ => cs.length + 1 - (intOf s).toNat)
  case atStart => exact ⟨0, a, b, cap, Nat.zero_le _, rfl, rfl, HS1.out⟩
  case round =>
    obtain ⟨k, ar, rb, cr, hk, rfl, rfl, hS⟩ := hrel
    have HS := hid hS
    clear hS HS1
    by_cases hlt : k < cs.length
    · have hkI : (k : Int) < (cs.length : Int) := by omega
      obtain ⟨gC, oC, rfl, cC⟩ := HC.out k hlt
      have c0 := cell_kept HS.out.be cC
      generalize cs[k] = cut at *
      have hR := HS.out.len
      have hRm : rb.length ≤ 1048576 := Nat.le_trans hR HL.out
      obtain ⟨R, hRe⟩ : ∃ R, rb.length = R := ⟨_, rfl⟩
      rw [hRe] at hRm ⊢
      have hlc := HS.out.lc
      rw [hRe] at hlc
      have HRE := hid hRe
      obtain ⟨J, hJ, hJ2⟩ : ∃ J : Nat, (IntKind.u64.wrap cut) % ((R : Int) + 1) = (J : Int) ∧ J ≤ R := ⟨((IntKind.u64.wrap cut) % ((R : Int) + 1)).toNat, by have := Int.emod_nonneg (IntKind.u64.wrap cut) (b := (R : Int) + 1) (by omega); omega, by have := Int.emod_nonneg (IntKind.u64.wrap cut) (b := (R : Int) + 1) (by omega); have := Int.emod_lt_of_pos (IntKind.u64.wrap cut) (b := (R : Int) + 1) (by omega); omega⟩
      have hU0 : 0 ≤ IntKind.u64.wrap cut := by rw [IntKind.wrap_u64]; omega
      obtain ⟨U, hU⟩ : ∃ U, IntKind.u64.wrap cut = U := ⟨_, rfl⟩
      rw [hU] at hJ hU0
      have hne : ¬ (R : Int) + 1 = 0 := by omega
      have hRI : (R : Int) ≤ 1048576 := by omega
      have hR0 : (0 : Int) ≤ (R : Int) := by omega
      have hJI : (J : Int) ≤ (R : Int) := by omega
      have hJ0 : (0 : Int) ≤ (J : Int) := by omega
      have hci : (R : Int) ≤ (cr : Int) := by omega
      have hJc : (J : Int) ≤ (cr : Int) := by omega
      have HJ2 := hid hJ2
      clear hRe hR cC hJ2
      go_upto_region 9 with fail
      have hTJ : (rb.take J).length = J := by rw [List.length_take, HRE.out]; have := HJ2.out; omega
      have HCY := hid (copy_slice (cap := cr) (bytes_front (HS.out.by_.kept HS.out.be) J) hTJ HS.out.z (by omega))
      clear hTJ
      have HPU : Hid (∀ W ax n cx, OwnBy W wr.heap.size (.slice ax n cx) (rb.take J) → Below wr.heap.size wr W → ∃ v' w', (Builtin.append_ #[44, 44] 44 #[u5, .slice (some ⟨W.heap.size, 0, none⟩) 1 1]).run Try.prog (W.alloc (.cells #[.slice ax n cx] 23)) = .ok v' w' ∧ (∃ Qs, PcL w' w.heap.size v' Qs ∧ Qs.length = k + 1 ∧ (Qs.map (·.2)).flatten ++ rb.drop J = b) ∧ Below w.heap.size w w') := fun W ax n cx ho hb =>
        ((HS.out.kept hb).kept (below_new W (.cells #[.slice ax n cx] 23))).push (by omega) (by rw [HRE.out]; exact HJ2.out) (own_below (own_base ho HS.out.be.size) (below_new W (.cells #[.slice ax n cx] 23))) (Row.new W [.slice ax n cx] 23)
      rcases ar with _ | ad
      · obtain rfl : cr = 0 := HS.out.z rfl
        obtain rfl : R = 0 := by omega
        obtain rfl : J = 0 := by have := HJ2.out; omega
        go_upto_region 11 with (first
          | (go_at_call 9; refine HCY.out.mono ?_; rintro e w2 ⟨ax, cx, rfl, ho2, hb2⟩; obtain ⟨v', w4, hrun, hQ, hB4⟩ := HPU.out w2 ax _ cx ho2 hb2; have HRUN := hid hrun; have HQ := hid hQ; have HB4 := hid hB4; clear ho2 hb2 hrun hQ hB4 HCY)
          | (at_builtin; refine wpList_append_by rfl (.tmp 38) (.tmp 43) 44 rfl rfl rfl HRUN.out ?_))
        clear HPU
        go_wp2_with fail
        go_roundw
        case rel => exact ⟨k + 1, none, rb, 0, hlt, by go_num, by rw [HRE.out], ⟨HQ.out, HS.out.by_, by rw [HRE.out]; exact Nat.le_refl _, Nat.zero_le _, fun _ => rfl, HB4.out⟩⟩
        case measure => simp [intOf]; omega
      · go_upto_region 11 with (first
          | (go_at_call 9; refine HCY.out.mono ?_; rintro e w2 ⟨ax, cx, rfl, ho2, hb2⟩; obtain ⟨v', w4, hrun, hQ, hB4⟩ := HPU.out w2 ax _ cx ho2 hb2; have HRUN := hid hrun; have HQ := hid hQ; have HB4 := hid hB4; clear ho2 hb2 hrun hQ hB4 HCY)
          | (at_builtin; refine wpList_append_by rfl (.tmp 38) (.tmp 43) 44 rfl rfl rfl HRUN.out ?_))
        have hX : ∀ ar2, (if cr = J then some ad else some (ad.add J)) = ar2 → BytesAt w ar2 (rb.drop J) ∧ (ar2 = none → False) := fun ar2 e => by
          by_cases h : cr = J
          · rw [if_pos h] at e
            subst e
            refine ⟨fun i hi => ?_, fun e => (by cases e)⟩
            rw [List.length_drop, HRE.out] at hi
            omega
          · rw [if_neg h] at e
            subst e
            refine ⟨fun i hi => ?_, fun e => (by cases e)⟩
            obtain ⟨g, o, e, _⟩ := HS.out.by_ 0 (by rw [List.length_drop] at hi; omega)
            injection e with e
            subst e
            have := bytes_back HS.out.by_ J i hi
            rw [Addr.add_lit]
            exact this
        have HX := hid hX
        clear hX
        generalize hgx : (if cr = J then some ad else some (ad.add J)) = ar2
        have HGX := hid hgx
        clear hgx HPU
        go_wp2_with fail
        go_roundw
        case rel =>
          obtain ⟨x1, x2⟩ := HX.out ar2 HGX.out
          exact ⟨k + 1, ar2, rb.drop J, cr - J, hlt, by go_num, by rw [List.length_drop, HRE.out], ⟨HQ.out, x1, by rw [List.length_drop, HRE.out]; omega, Nat.le_trans (Nat.sub_le _ _) HS.out.cm, fun e => (x2 e).elim, HB4.out⟩⟩
        case measure => simp [intOf]; omega
    · obtain rfl : k = cs.length := by omega
      clear hlt
      have hR := HS.out.len
      have hRm : rb.length ≤ 1048576 := Nat.le_trans hR HL.out
      have HCY := hid (copy_slice (cap := cr) (HS.out.by_.kept HS.out.be) rfl HS.out.z (by omega))
      have HPU : Hid (∀ W ax n cx, OwnBy W wr.heap.size (.slice ax n cx) rb → Below wr.heap.size wr W → ∃ v' w', (Builtin.append_ #[44, 44] 44 #[u5, .slice (some ⟨W.heap.size, 0, none⟩) 1 1]).run Try.prog (W.alloc (.cells #[.slice ax n cx] 23)) = .ok v' w' ∧ (∃ Qs, PcL w' w.heap.size v' Qs ∧ Qs.length = cs.length + 1 ∧ (Qs.map (·.2)).flatten = b) ∧ Below w.heap.size w w') := fun W ax n cx ho hb => by
        have h := ((HS.out.kept hb).kept (below_new W (.cells #[.slice ax n cx] 23))).push (by omega) (Nat.le_refl _) (v := .slice ax n cx) (by rw [List.take_length]; exact own_below (own_base ho HS.out.be.size) (below_new W (.cells #[.slice ax n cx] 23))) (Row.new W [.slice ax n cx] 23)
        simp only [List.drop_length, List.append_nil] at h
        exact h
      clear hR
      go_upto_region 13 with (first
          | (go_at_call 9; refine HCY.out.mono ?_; rintro e w2 ⟨ax, cx, rfl, ho2, hb2⟩; obtain ⟨v', w4, hrun, hQ, hB4⟩ := HPU.out w2 ax _ cx ho2 hb2; have HRUN := hid hrun; have HQ := hid hQ; have HB4 := hid hB4; clear ho2 hb2 hrun hQ hB4 HCY)
          | (at_builtin; refine wpList_append_by rfl (.tmp 49) (.tmp 52) 44 rfl rfl rfl HRUN.out ?_))
      obtain ⟨Qs, hQ1, hQ2, hQ3⟩ := HQ.out
      obtain ⟨aP, cP, rfl, hP⟩ := hQ1.at
      have HPC := hid (And.intro hQ1 hP)
      have HQ3 := hid hQ3
      have hQm : (Qs.map (·.2)).length = Qs.length := List.length_map ..
      have HQM := hid hQm
      have hQl : Qs.length ≤ 2097152 := by omega
      have HQL := hid hQl
      have HCB := hid (copy_slice (cap := cap) (HB.out.kept HB4.out) rfl HZ.out (by have := HL.out; omega))
      clear hQ1 hQ2 hQ3 hP HQ hQm hQl HPU HRUN
      generalize Qs.length = nP at *
      go_upto_region 14 with (first
          | (go_at_call 9; refine HCB.out.mono ?_; rintro e w5 ⟨ax5, cx5, rfl, ho5, hb5⟩; have hb6 := below_new w5 (.cells #[.slice ax5 b.length cx5] 23); have HAL := hid (lall_look (c := 1) (n := 1) rfl (one_pcs (Row.new w5 [.slice ax5 b.length cx5] 23) (own_below ho5 hb6)) true (b := b) (by simp) HL.out (by decide)); have HB6 := hid (hb5.trans (hb6.mono hb5.size)); clear ho5 hb5 hb6 HCB)
          | (go_at_call 19; refine HAL.out.mono ?_; rintro e w7 ⟨a7, c7, l7, rfl, hL7, hb7⟩; have HL7 := hid hL7; have HB7 := hid (HB6.out.trans (hb7.mono HB6.out.size)); clear hL7 hb7 HAL HB6))
      have h48 := bsl48
      have HALL2 : Hid (∀ W late, Below w7.heap.size w7 W → Calls Try.prog 19 #[.slice aP nP cP, .bool late] W fun e w' => ∃ (a2 : Option Addr) (c2 lf : Nat), e = .returned (.tuple #[.slice a2 (Pr b).1.length c2, .int .i64 (Pr b).2.1, .int .u64 ((b.length - (Pr b).2.2.length : Nat) : Int), .int .i64 (lf : Int)]) ∧ LkA w' a2 (Pr b).1 ∧ Below W.heap.size W w') := fun W late hW => lall_look HQM.out ((HPC.out.2.kept HB7.out).kept hW) late HQ3.out HL.out HQL.out
      have HB7w := hid (HB4.out.trans (HB7.out.mono HB4.out.size))
      have hGm : (Pr b).1.length ≤ 1048576 := Nat.le_trans (Pr_cnt _ b (Nat.lt_succ_self _)) HL.out
      clear HPC HB7 HB4 HS HC HB HZ HCP hli hRm
      generalize (Pr b).1 = G at *
      generalize (Pr b).2.1 = er at *
      generalize ((b.length - (Pr b).2.2.length : Nat) : Int) = atv at *
      obtain ⟨nG, hnG⟩ : ∃ nG, G.length = nG := ⟨_, rfl⟩
      have HNG := hid hnG
      rw [hnG] at HALL2 hGm ⊢
      have hGi : (nG : Int) ≤ 1048576 := by omega
      clear hnG hGm HQM HQL HQ3
      go_wp2_with fail
      refine wp_world ?_
      intro wq hwq
      have hbq : Below w7.heap.size w7 wq := by rw [hwq.out]; exact below_new _ _
      have RB : Row wq w7.heap.size [.bool false, .bool true] 4 := by rw [hwq.out]; exact Row.new _ _ _
      have HBQ := hid hbq
      have HRB := hid RB
      have HLQ := hid (HL7.out.kept hbq)
      have HBW := hid (HB7w.out.trans (hbq.mono HB7w.out.size))
      obtain ⟨bb, hbb⟩ : ∃ g, w7.heap.size = g := ⟨_, rfl⟩
      rw [hbb] at HRB ⊢
      clear hbq RB hwq HL7 HB7w h48
      go_loopw [65] (fun s65 wz => ∃ j : Nat, j ≤ 2 ∧ s65 = .int .i64 j ∧ Below wq.heap.size wq wz) (fun s _ => 3 - (intOf s).toNat)
      case atStart => exact ⟨0, Nat.zero_le _, rfl, Below.refl _ _⟩
      case round =>
        obtain ⟨j, hj, rfl, hbz⟩ := hrel
        refine wp_world ?_
        intro wz hwz
        rw [← hwz.out] at hbz
        have HBZ := hid hbz
        clear hbz hwz
        by_cases hj2 : j < 2
        · have hjI : (j : Int) < 2 := by omega
          have hj0 : (0 : Int) ≤ (j : Int) := by omega
          obtain ⟨lt, hlt⟩ : ∃ lt : Bool, wz.cell? ⟨bb, j, none⟩ = some (.bool lt) := by
            have hr := HRB.out.kept HBZ.out HRB.out.lt
            have : j = 0 ∨ j = 1 := by omega
            rcases this with rfl | rfl
            · exact ⟨_, hr.cell 0 _ rfl⟩
            · exact ⟨_, hr.cell 1 _ rfl⟩
          have HA2 := hid (HALL2.out wz lt (HBQ.out.trans (HBZ.out.mono HBQ.out.size)))
          go_upto_region 18 with (go_at_call 19; refine HA2.out.mono ?_; rintro e w8 ⟨a8, c8, l8, rfl, hL8, hb8⟩; have HL8 := hid hL8; have HB8 := hid (HBZ.out.trans (hb8.mono HBZ.out.size)); clear hL8 hb8 HA2)
          go_wp2_with fail
          go_loopw [94] (fun s94 wy => ∃ i : Nat, i ≤ nG ∧ s94 = .int .i64 i ∧ Below w8.heap.size w8 wy) (fun s _ => nG + 1 - (intOf s).toNat)
          case atStart => exact ⟨0, Nat.zero_le _, rfl, Below.refl _ _⟩
          case round =>
            obtain ⟨i, hi, rfl, hby⟩ := hrel
            refine wp_world ?_
            intro wy hwy
            rw [← hwy.out] at hby
            have HBY := hid hby
            clear hby hwy
            by_cases hi2 : i < nG
            · have hiI : (i : Int) < (nG : Int) := by omega
              have hi0 : (0 : Int) ≤ (i : Int) := by omega
              have hiG : i < G.length := by rw [HNG.out]; exact hi2
              obtain ⟨g1, ax1, cx1, rfl, hB1, hc1⟩ := (HLQ.out.kept HB8.out).kept HBY.out i hiG
              obtain ⟨g2, ax2, cx2, rfl, hB2, hc2⟩ := HL8.out.kept HBY.out i hiG
              generalize G[i] = F at *
              have p0 := hc1 0 _ rfl
              have p1 := hc1 1 _ rfl
              have p2 := hc1 2 _ rfl
              have p3 := hc1 3 _ rfl
              have p4 := hc1 4 _ rfl
              have p5 := hc1 5 _ rfl
              have q0 := hc2 0 _ rfl
              have q1 := hc2 1 _ rfl
              have q2 := hc2 2 _ rfl
              have q3 := hc2 3 _ rfl
              have q4 := hc2 4 _ rfl
              have q5 := hc2 5 _ rfl
              rw [Nat.add_zero] at p0 q0
              have HSM := hid ((rsame_any wy.drew F.k F.s F.n F.c F.h F.k F.s F.n F.c F.h ax1 ax2 F.bs F.bs _ _ cx1 cx2 (hB1.kept (Below.refl _ _).drew) rfl (hB2.kept (Below.refl _ _).drew) rfl).mono (fun e w9 (h : _ ∧ _) => (⟨by rw [h.1, decide_eq_true ⟨rfl, rfl, rfl, rfl, rfl, rfl⟩], (Below.refl _ _).drew.trans h.2⟩ : e = .returned (.bool true) ∧ Below wy.heap.size wy w9)))
              clear hc1 hc2 hB1 hB2
              generalize F.bs.length = nB at *
              go_upto_region 23 with fail
              go_region_held3 (fun W => W.cell? ⟨g1, i * 6, none⟩ = some (.int .i64 F.k) ∧ W.cell? ⟨g1, i * 6 + 1, none⟩ = some (.int .u64 F.s) ∧ W.cell? ⟨g1, i * 6 + 2, none⟩ = some (.int .u64 F.n) ∧ W.cell? ⟨g1, i * 6 + 3, none⟩ = some (.int .i64 F.c) ∧ W.cell? ⟨g1, i * 6 + 4, none⟩ = some (.int .i64 F.h) ∧ W.cell? ⟨g1, i * 6 + 5, none⟩ = some (.slice ax1 nB cx1) ∧ W.cell? ⟨g2, i * 6, none⟩ = some (.int .i64 F.k) ∧ W.cell? ⟨g2, i * 6 + 1, none⟩ = some (.int .u64 F.s) ∧ W.cell? ⟨g2, i * 6 + 2, none⟩ = some (.int .u64 F.n) ∧ W.cell? ⟨g2, i * 6 + 3, none⟩ = some (.int .i64 F.c) ∧ W.cell? ⟨g2, i * 6 + 4, none⟩ = some (.int .i64 F.h) ∧ W.cell? ⟨g2, i * 6 + 5, none⟩ = some (.slice ax2 nB cx2)) (go_keep)
                (first
                  | (go_at_call 14; refine HSM.out.mono ?_; rintro e w9 ⟨rfl, hb9⟩; have p0' := cell_kept hb9 p0; have p1' := cell_kept hb9 p1; have p2' := cell_kept hb9 p2; have p3' := cell_kept hb9 p3; have p4' := cell_kept hb9 p4; have p5' := cell_kept hb9 p5; have q0' := cell_kept hb9 q0; have q1' := cell_kept hb9 q1; have q2' := cell_kept hb9 q2; have q3' := cell_kept hb9 q3; have q4' := cell_kept hb9 q4; have q5' := cell_kept hb9 q5; have HB9 := hid (HBY.out.trans (hb9.mono HBY.out.size)); clear hb9 HSM))
              go_wp2_with fail
              go_roundw
              case rel => exact ⟨i + 1, hi2, by go_num, HB9.out⟩
              case measure => simp [intOf]; omega
            · obtain rfl : i = nG := by omega
              go_wp2_with fail
              go_roundw
              case rel => exact ⟨j + 1, by omega, by go_num, HB8.out.trans (HBY.out.mono HB8.out.size)⟩
              case measure => simp [intOf]; omega
        · obtain rfl : j = 2 := by omega
          go_wp2_with fail
          go_ret
          exact ⟨rfl, HBW.out.trans (HBZ.out.mono HBW.out.size)⟩
end Go.Proofs.Ytkhogbnoincbeaa
