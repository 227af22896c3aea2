import Derived.Test.YtdbdiebgjnofgabGu4
import Derived.Maps.AppendAt
import Derived.Laws.AppendOwnNone
import Derived.Deep.CutRange
import Derived.Deep.RegionLaw
import Derived.BigQuiet
import Derived.Lib.QuietBelow
namespace Go.Proofs.Ytdbdiebgjnofgab
open Go.RowKit Go.Maps Go.Sort
set_option maxRecDepth 100000

theorem own_rd {w : World} {B : Nat} {e : TypeId} {size : Nat} {v : Value} {n : Nat} {xs : List Value} (h : w.ownsRow B e size v n xs) : ∃ a c, v = .slice a n c ∧ ∀ j u, xs[j]? = some u → ∃ g, a = some ⟨g, 0, none⟩ ∧ w.cell? ⟨g, j, none⟩ = some u := by
  rcases h.2 with ⟨rfl, hn⟩ | ⟨g, cap, cur, rfl, _, hg, _, _, _, ht⟩
  · refine ⟨none, 0, by rw [hn], fun j u hj => ?_⟩
    have := (List.getElem?_eq_some_iff.1 hj).1
    have := h.1
    rw [hn] at this
    omega
  · refine ⟨_, cap, rfl, fun j u hj => ⟨g, rfl, ?_⟩⟩
    rw [cell_of_row w g _ _ _ _ hg]
    rw [← ht, List.getElem?_take] at hj
    split at hj
    · simpa using hj
    · simp at hj
theorem infoP : ∃ i : TypeInfo, Try.prog.info? 32 = some i ∧ i.zero = some (.agg #[.int .i64 0, .int .u64 0, .int .i64 0]) ∧ i.size = 3 ∧ i.bytes = 24 := by
  have h : (Try.prog.info? 32).map (fun i => (i.zero, i.size, i.bytes)) = some (some (.agg #[.int .i64 0, .int .u64 0, .int .i64 0]), 3, 24) := by kernel_rfl
  cases hi : Try.prog.info? 32 with
  | none => rw [hi] at h; simp at h
  | some i =>
    rw [hi] at h
    simp only [Option.map_some, Option.some.injEq, Prod.mk.injEq] at h
    exact ⟨i, rfl, h.1, h.2.1, h.2.2⟩
theorem ChZ_ints {w : World} {B : Nat} {s : Value} {l : List Int} (h : Snd.OwnI w B s l) : ∃ a c, s = .slice a l.length c ∧ IntsIn w a l := by
  obtain ⟨a, c, rfl, hr⟩ := own_rd h
  refine ⟨a, c, rfl, fun k hk => ?_⟩
  obtain ⟨g, rfl, hc⟩ := hr k (.int .i64 l[k]) (by simp [Snd.icells, hk])
  exact ⟨g, 0, rfl, by rw [Nat.zero_add]; exact hc⟩
theorem IntsIn.kept {w w' : World} {a : Option Addr} {l : List Int} (h : IntsIn w a l) (hb : Below w.heap.size w w') : IntsIn w' a l := fun k hk => by
  obtain ⟨g, o, e, hc⟩ := h k hk
  exact ⟨g, o, e, cell_kept hb hc⟩
theorem onUp_few (x : Int) : (Snd.onUp x 8).length ≤ 8 := Snd.onUp_len x 8
theorem pcells_get : ∀ (L : List Pk) (k : Nat) (h : k < L.length) (j : Nat) (v : Value), L[k].cells[j]? = some v → (pcells L)[k * 3 + j]? = some v
  | [], k, h, _, _, _ => by simp at h
  | p :: L, 0, _, j, v, hv => by
    rw [pcells_cons, Nat.zero_mul, Nat.zero_add, List.getElem?_append_left (by have := (List.getElem?_eq_some_iff.1 hv).1; simpa using this)]
    exact hv
  | p :: L, k + 1, h, j, v, hv => by
    have := pcells_get L k (by simpa using h) j v (by simpa using hv)
    rw [pcells_cons, List.getElem?_append_right (by simp; omega)]
    rw [show (k + 1) * 3 + j - p.cells.length = k * 3 + j by simp; omega]
    exact this
theorem pcells_snoc (L : List Pk) (p : Pk) : pcells (L ++ [p]) = pcells L ++ p.cells := by simp [pcells]
theorem pcells_one (L : List Pk) : ∀ u ∈ pcells L, u.oneCell' = true := fun u hu => by
  unfold pcells at hu
  obtain ⟨p, _, hp⟩ := List.mem_flatMap.1 hu
  simp only [Pk.cells, List.mem_cons, List.not_mem_nil, or_false] at hp
  rcases hp with rfl | rfl | rfl <;> rfl
/-- 'append' of one decision inside a statement that draws its order. -/
theorem step_more {w : World} {ops : Array Oper} {o : Oper} {act : Act} {K : Act → World → Prop} {Q : Exit → Act → World → Prop} {E : Prop} (hgd : o.guard = none) (d x : Operand) (ho : o.op = .call { callee := .builtin .append, args := #[d, x], argTypes := #[42, 42] })
    {base k : Nat} {v : Value} {old : List Value} (hd : act.eval d = v) (hown : w.ownsRow base 32 3 v k old) (hbase : base ≤ w.heap.size) {bx : Nat} {z off len : Int} (hx : act.eval x = .slice (some ⟨bx, 0, none⟩) 1 1) (hbx : Row w bx [.int .i64 z, .int .u64 off, .int .i64 len] 32) (hk : k + 1 ≤ 5864062014650)
    (h : ∀ v' w', w'.ownsRow base 32 3 v' (k + 1) (old ++ [.int .i64 z, .int .u64 off, .int .i64 len]) → w.grownBy w' v.ownBlock → K (act.put o.dst v') w') :
    if Region.wanted o (yielded ops act.tmps) = true then Oper.wp Try.prog o act w K Q else E := by
  have hw : Region.wanted o (yielded ops act.tmps) = true := by simp [Region.wanted, hgd]
  rw [if_pos hw]
  obtain ⟨iP, hi1, hi2, hi3, hi4⟩ := infoP
  obtain ⟨v', w', hrun, h1, h2, _, _⟩ := run_append_own_at (P := Try.prog) w base 42 o.type 32 iP _ 3 24 Try.underlying42 hi1 hi2 hi3 hi4 rfl (by decide) v k old hown ⟨bx, 0, none⟩ 1 1 [.int .i64 z, .int .u64 off, .int .i64 len] rfl (fun j u hj => by rw [Addr.add_lit, Nat.zero_add]; exact hbx.cell j u hj) (by simp [Value.oneCell']) (by unfold maxLen; omega) (by omega) hbase
  unfold Oper.wp
  simp [execOp, ho, resolve, invoke, builtin, hd, hx, hrun, Result.andThen]
  exact h v' w' h1 h2
theorem bf_new {w : World} {p : Nat} {F : Snd.Sb} (h : Snd.SbW w p F none 0) (hl : F.L = []) : Snd.Bf w p F (fun x => x = p) :=
  ⟨none, 0, h, rfl, fun g o e => (by cases e), fun c hc => (by rw [hl] at hc; simp at hc), fun x hx => (by subst hx; exact h.r.row.lt)⟩
set_option maxHeartbeats 8000000 in
theorem guards_law {w : World} {base room mss edge b r m : Int} (h0 : 0 ≤ base) (h1 : 0 ≤ edge) (h2 : edge ≤ 18446744073709551615) (hb : min base 4611686018427387904 = b) (hr : max 1 (min room 65536) = r) (hm : max 1 (min mss 1024) = m) {as_ : Option Addr} {Os : List Opg} (cs : Nat) (hO : OpgAt w as_ Os) (hOl : Os.length ≤ 140737488355328) {V : Vw} (hV : VwAt w V) {vp : Value} {ps : List Pk} (hP : SrcAt w 3 vp ps.length (pcells ps)) (hPl : ps.length ≤ 5864062014634) :
    Calls Try.prog 5 #[.int .u64 base, .int .i64 room, .int .i64 mss, .int .u64 edge, .slice as_ Os.length cs, V.val, vp] w fun e w' => e = .returned (.bool true) ∧ Below w.heap.size w w' := by
  have hbx : Below w.heap.size w (w.alloc (.cells V.cells.toArray 28)) := (Below.refl _ _).alloc (Nat.le_refl _) _
  have hRV := Row.new w V.cells 28
  have hOv : OpgAt (w.alloc (.cells V.cells.toArray 28)) as_ Os := fun k hk => by
    obtain ⟨g, o, e, h3, h4, h5⟩ := hO k hk
    exact ⟨g, o, e, fun j v hv => cell_kept hbx (h3 j v hv), h4, ⟨h5.by_.kept hbx, h5.lc, h5.nm, h5.z⟩⟩
  have hPv := hP.kept hbx
  have HO := hid hOv
  have HP := hid hPv
  have HVA := hid (hV.kept hbx)
  have HRV := hid hRV
  have HBX := hid hbx
  clear hbx hRV hOv hPv hO hP hV
  obtain ⟨NS, hNS⟩ : ∃ n, Os.length = n := ⟨_, rfl⟩
  have HNS := hid hNS
  rw [hNS] at hOl ⊢
  clear hNS
  have hNi : (NS : Int) ≤ 140737488355328 := by omega
  go_enter Try.func5, Try.ntmps5
  go_upto_region 1 with fail
  generalize hwv : w.alloc (.cells V.cells.toArray 28) = wv at *
  clear hwv
  go_upto_region 2 with (go_at_call 18; refine (Snd.new_any _ h0 h1 h2 hb hr hm).mono ?_; rintro e w1 ⟨p, rfl, hs1, hb1, hp1⟩; have HW1 : Hid (GuS wv p (Snd.Sb.mk1 b r m edge) w1) := ⟨⟨_, bf_new hs1 rfl, fun y hy => by subst hy; exact hp1⟩, ⟨fun c1 => (by cases c1), fun _ => Int.le_refl _⟩, hb1⟩; clear hs1 hb1 hp1)
  clear h0 h1 h2 hb hr hm
  generalize Snd.Sb.mk1 b r m edge = F0 at *
  go_wp2_with fail
  go_loopw [16] (fun s16 wr => ∃ (i : Nat) (F : Snd.Sb), i ≤ NS ∧ s16 = .int .i64 i ∧ Hid (GuS wv p F wr)) (fun s _ => NS - (intOf s).toNat)
  case atStart => exact ⟨0, F0, Nat.zero_le _, rfl, HW1⟩
  case round =>
    obtain ⟨i, F, hi, rfl, HS⟩ := hrel
    clear HW1
    by_cases hlt : i < NS
    · have hii : (i : Int) < NS := by omega
      obtain ⟨g2, q2, rfl, hcl, hed, hok⟩ := HO.out i (by have := HNS.out; omega)
      generalize Os[i]'(by have := HNS.out; omega) = ox at *
      obtain ⟨o0, o1, o2, o3, y⟩ := ox
      simp only at hcl hed hok
      have k0 : wr.cell? ⟨g2, q2 + i * 5, none⟩ = some (.int .i64 o0) := cell_kept HS.out.bel (hcl 0 _ rfl)
      have k1 : wr.cell? ⟨g2, q2 + i * 5 + 1, none⟩ = some (.int .i64 o1) := cell_kept HS.out.bel (hcl 1 _ rfl)
      have k2 : wr.cell? ⟨g2, q2 + i * 5 + 2, none⟩ = some (.int .u64 o2) := cell_kept HS.out.bel (hcl 2 _ rfl)
      have k3 : wr.cell? ⟨g2, q2 + i * 5 + 3, none⟩ = some (.int .u64 o3) := cell_kept HS.out.bel (hcl 3 _ rfl)
      have k4 : wr.cell? ⟨g2, q2 + i * 5 + 4, none⟩ = some (.slice y.a y.bs.length y.cap) := cell_kept HS.out.bel (hcl 4 _ rfl)
      have HOK := hid hok
      clear hcl hok
      have HRO := hid (Row.new wr [.int .i64 o0, .int .i64 o1, .int .u64 o2, .int .u64 o3, .slice y.a y.bs.length y.cap] 60)
      have HS3 := hid (HS.out.kept ((Below.refl wr.heap.size wr).alloc (Nat.le_refl _) (.cells #[.int .i64 o0, .int .i64 o1, .int .u64 o2, .int .u64 o3, .slice y.a y.bs.length y.cap] 60)))
      clear HS
      go_upto_region 8 with fail
      generalize wr.alloc (.cells #[.int .i64 o0, .int .i64 o1, .int .u64 o2, .int .u64 o3, .slice y.a y.bs.length y.cap] 60) = w3 at *
      clear k0 k1 k2 k3 k4
      generalize wr.heap.size = ob at *
      have q0 := HRO.out.cell 0 _ rfl
      have q1 := HRO.out.cell 1 _ rfl
      have q2' := HRO.out.cell 2 _ rfl
      have q3 := HRO.out.cell 3 _ rfl
      have q4 := HRO.out.cell 4 _ rfl
      clear HRO
      by_cases hk1 : o0 = 1
      · subst hk1
        as_aux_lemma =>
          go_wp2_with (go_at_call 19; refine (HS3.out.write HOK.out).mono ?_; rintro e w4 ⟨⟨nn, rfl⟩, F', hA⟩; have HA := hid hA; clear hA)
          go_roundw
          case rel => exact ⟨i + 1, F', hlt, by go_num, HA⟩
          case measure => simp [intOf]; omega
      have hq1 : (o0 == 1) = false := by simpa using hk1
      by_cases hk2 : o0 = 2
      · subst hk2
        as_aux_lemma =>
          go_wp2_with (go_at_call 20; refine (HS3.out.sent o1 o2).mono ?_; rintro e w4 ⟨⟨bb, rfl⟩, F', hA⟩; have HA := hid hA; clear hA)
          go_roundw
          case rel => exact ⟨i + 1, F', hlt, by go_num, HA⟩
          case measure => simp [intOf]; omega
      have hq2 : (o0 == 2) = false := by simpa using hk2
      by_cases hk3 : o0 = 3
      · subst hk3
        as_aux_lemma =>
          go_wp2_with (go_at_call 21; refine (HS3.out.lost o1 o2).mono ?_; rintro e w4 ⟨⟨bb, rfl⟩, F', hA⟩; have HA := hid hA; clear hA)
          go_roundw
          case rel => exact ⟨i + 1, F', hlt, by go_num, HA⟩
          case measure => simp [intOf]; omega
      have hq3 : (o0 == 3) = false := by simpa using hk3
      by_cases hk4 : o0 = 4
      · subst hk4
        as_aux_lemma =>
          go_wp2_with (go_at_call 22; refine (HS3.out.held o1 o2).mono ?_; rintro e w4 ⟨⟨bb, rfl⟩, F', hA⟩; have HA := hid hA; clear hA)
          go_roundw
          case rel => exact ⟨i + 1, F', hlt, by go_num, HA⟩
          case measure => simp [intOf]; omega
      have hq4 : (o0 == 4) = false := by simpa using hk4
      by_cases hk5 : o0 = 5
      · subst hk5
        as_aux_lemma =>
          go_wp2_with (go_at_call 23; refine (HS3.out.ack o2 o3 hed.1 hed.2).mono ?_; rintro e w4 ⟨⟨bb, rfl⟩, F', hA⟩; have HA := hid hA; clear hA)
          go_roundw
          case rel => exact ⟨i + 1, F', hlt, by go_num, HA⟩
          case measure => simp [intOf]; omega
      have hq5 : (o0 == 5) = false := by simpa using hk5
      by_cases hk6 : o0 = 6
      · subst hk6
        as_aux_lemma =>
          go_wp2_with (go_at_call 24; refine (HS3.out.close).mono ?_; rintro e w4 ⟨⟨bb, rfl⟩, F', hA⟩; have HA := hid hA; clear hA)
          go_roundw
          case rel => exact ⟨i + 1, F', hlt, by go_num, HA⟩
          case measure => simp [intOf]; omega
      have hq6 : (o0 == 6) = false := by simpa using hk6
      go_wp2_with fail
      go_roundw
      case rel => exact ⟨i + 1, F, hlt, by go_num, HS3⟩
      case measure => simp [intOf]; omega
    · have hii : ¬ (i : Int) < NS := by omega
      obtain ⟨NL, hNL⟩ : ∃ n, F.L.length = n := ⟨_, rfl⟩
      have HNL := hid hNL
      have hnl : (NL : Int) ≤ 65537 := by have := HS.out.few; omega
      have HCH : Hid (∀ W, Below wr.heap.size wr W → Calls Try.prog 25 #[.pointer (some ⟨p, 0, none⟩)] W fun e w' => ∃ v X, e = .returned v ∧ w'.ownsRow W.heap.size 26 5 v NL X ∧ Snd.ChZ w' W.heap.size F.L X ∧ Below W.heap.size W w') := fun W hW => by rw [← hNL]; exact (HS.out.kept hW).chunks
      clear hNL
      go_upto_region 22 with (go_at_call 25; refine (HCH.out _ (Below.refl _ _)).mono ?_; rintro e wl ⟨u18', X, rfl, ho18, hz18, hb18⟩; obtain ⟨a18, c18, rfl, hrd18⟩ := own_rd ho18; have HRD := hid hrd18; have HZ := hid hz18; have HBL := hid hb18; clear ho18 hrd18 hz18 hb18)
      have HSL := hid (HS.out.kept HBL.out)
      have HPL := hid (HP.out.kept HSL.out.bel)
      obtain ⟨NP, hNP⟩ : ∃ n, ps.length = n := ⟨_, rfl⟩
      have HNP := hid hNP
      clear hNP
      obtain ⟨iP, hi1, hi2, hi3, hi4⟩ := infoP
      go_upto_region 23 with fail
      go_cut [19] from 89 to 91 (fun s19 wx => Hid (wx.ownsRow wl.heap.size 32 3 s19 ps.length (pcells ps)) ∧ Hid (Below wl.heap.size wl wx))
      case first =>
        obtain ⟨k1, k2, ⟨rfl, k3⟩ | ⟨ad, cap, rfl, k3⟩⟩ := HPL.out
        · have hps : ps = [] := List.length_eq_zero_iff.1 k3
          subst hps
          go_wp2_with (at_builtin; refine wpList_append_own_none rfl (.tmp 89) (.tmp 90) 42 rfl wl.heap.size 32 iP 3 Try.underlying42 hi1 (.slice none 0 0) 0 [] rfl ⟨rfl, .inl ⟨rfl, rfl⟩⟩ rfl ?_)
          go_meet
          exact ⟨⟨rfl, .inl ⟨rfl, rfl⟩⟩, Below.refl _ _⟩
        · go_wp2_with (at_builtin; refine wpList_append_own_at _ rfl (.tmp 89) (.tmp 90) 42 rfl wl.heap.size 32 iP (.agg #[.int .i64 0, .int .u64 0, .int .i64 0]) 3 24 Try.underlying42 hi1 hi2 hi3 hi4 rfl (by decide) (.slice none 0 0) 0 [] rfl ⟨rfl, .inl ⟨rfl, rfl⟩⟩ ad ps.length cap (pcells ps) rfl k2 k3 k1 (by unfold maxLen; omega) (by omega) (Nat.le_refl _) ?_; intro v6 w6 ho6 hg6 _ _)
          go_meet
          rw [Nat.zero_add, List.nil_append] at ho6
          exact ⟨ho6, (Below.refl _ _).grown hg6 (Nat.le_refl _) (fun g e => by simp [Value.ownBlock] at e)⟩
      case rest =>
        obtain ⟨HO0, HBA0⟩ := hcut
        obtain ⟨wb0, hwb0⟩ : ∃ x, x = wc := ⟨_, rfl⟩
        rw [← hwb0] at HO0 HBA0 ⊢
        clear hwb0 HPL
        go_wp2_with fail
        go_loopw [19, 20] (fun s19 s20 wx => ∃ (j : Nat) (P : List Pk), j ≤ 8 ∧ j ≤ NL ∧ s20 = .int .i64 j ∧ Hid (P.length ≤ NP + j) ∧ Hid (wx.ownsRow wl.heap.size 32 3 s19 P.length (pcells P)) ∧ Hid (Below wl.heap.size wl wx)) (fun _ s _ => 8 - (intOf s).toNat)
        case atStart => exact ⟨0, ps, Nat.zero_le _, Nat.zero_le _, rfl, hid (by have := HNP.out; omega), HO0, HBA0⟩
        case round =>
          obtain ⟨j, P, hj8, hjn, rfl, HPj, HOj, HBj⟩ := hrel
          clear HO0 HBA0
          go_upto_region 25 with fail
          go_cut [99] from 92 to 99 (fun s99 wx => s99 = .bool (decide (j < NL ∧ j < 8)) ∧ wx = wr)
          case first =>
            by_cases h1 : j < NL
            · have h1i : (j : Int) < NL := by omega
              have h1d : decide ((j : Int) < NL) = true := decide_eq_true h1i
              by_cases h2 : j < 8
              · have h2i : (j : Int) < 8 := by omega
                have h2d : decide ((j : Int) < 8) = true := decide_eq_true h2i
                go_wp2_with fail
                go_meet
                exact ⟨congrArg Value.bool (decide_eq_true (p := j < NL ∧ j < 8) ⟨h1, h2⟩).symm, rfl⟩
              · have h2i : ¬ (j : Int) < 8 := by omega
                have h2d : decide ((j : Int) < 8) = false := decide_eq_false h2i
                go_wp2_with fail
                go_meet
                exact ⟨congrArg Value.bool (decide_eq_false (p := j < NL ∧ j < 8) (fun h => h2 h.2)).symm, rfl⟩
            · have h1i : ¬ (j : Int) < NL := by omega
              have h1d : decide ((j : Int) < NL) = false := decide_eq_false h1i
              go_wp2_with fail
              go_meet
              exact ⟨congrArg Value.bool (decide_eq_false (p := j < NL ∧ j < 8) (fun h => h1 h.1)).symm, rfl⟩
          case rest =>
            obtain ⟨rfl, hwx⟩ := hcut
            rw [hwx]
            clear hwx
            by_cases hc : j < NL ∧ j < 8
            · rw [decide_eq_true hc]
              obtain ⟨h1, h2⟩ := hc
              have hjL : j < F.L.length := by have := HNL.out; omega
              have h1i : (j : Int) < NL := by omega
              obtain ⟨x0, x1, _⟩ := HZ.out.at_ j hjL
              obtain ⟨g18, rfl, m0⟩ := HRD.out _ _ x0
              obtain ⟨_, e1, m1⟩ := HRD.out _ _ x1
              cases e1
              replace m0 := cell_kept HBj.out m0
              replace m1 := cell_kept HBj.out m1
              generalize F.L[j].off = off at *
              generalize (F.L[j].bs.length : Int) = len at *
              clear x0 x1
              have hbd : ∀ (z : Int) w, (Instr.build 32 #[(0, .int .i64 z), (1, .int .u64 off), (2, .int .i64 len)]).run Try.prog w = .ok (.agg #[.int .i64 z, .int .u64 off, .int .i64 len]) w := fun _ _ => by kernel_rfl
              have HOW : Hid (∀ o, (wr.alloc o).drew.ownsRow wl.heap.size 32 3 u19 P.length (pcells P)) := fun o => Snd.own_below HOj.out (((Below.refl wr.heap.size wr).alloc (Nat.le_refl _) o).drew)
              have HSZ : Hid (∀ o, wl.heap.size ≤ (wr.alloc o).drew.heap.size) := fun o => by have := HBj.out.size; simp [World.drew]; omega
              have HFN : Hid (∀ o v6 w6 (z : Int), w6.ownsRow wl.heap.size 32 3 v6 (P.length + 1) (pcells P ++ [.int .i64 z, .int .u64 off, .int .i64 len]) → (wr.alloc o).drew.grownBy w6 u19.ownBlock → (∃ pk : Pk, w6.ownsRow wl.heap.size 32 3 v6 (P ++ [pk]).length (pcells (P ++ [pk]))) ∧ Below wl.heap.size wl w6) := fun o v6 w6 z h1 h2 =>
                ⟨⟨⟨z, off, len⟩, by rw [pcells_snoc, List.length_append]; exact h1⟩, (HBj.out.trans (((Below.refl wr.heap.size wr).alloc (Nat.le_refl _) o).drew.mono HBj.out.size)).grown h2 (HSZ.out o) (fun g e => Snd.own_ge HOj.out e)⟩
              have HPB : Hid (P.length + 1 ≤ 5864062014650) := by have := HPj.out; have := HNP.out; show _ ≤ _; omega
              go_upto_region 27 with fail
              go_region_law (refine step_more rfl (.tmp 102) (.tmp 116) rfl rfl (HOW.out _) (HSZ.out _) rfl ⟨(Row.new' wr _ [_, _, _] 32 _ rfl rfl).at_⟩ HPB.out ?_; intro v6 w6 ho6 hg6; have HF6 := hid (HFN.out _ _ _ _ ho6 hg6); clear ho6 hg6)
              all_goals
                go_wp2_with fail
                go_roundw
                case rel =>
                  obtain ⟨⟨pk, h6⟩, hb6⟩ := HF6.out
                  exact ⟨j + 1, P ++ [pk], h2, h1, by go_num, hid (by have := HPj.out; rw [List.length_append, List.length_singleton]; omega), h6, hb6⟩
                case measure => simp [intOf]; omega
            · rw [decide_eq_false hc]
              obtain ⟨a19, c19, hu19, hrd19⟩ := own_rd HOj.out
              subst hu19
              obtain ⟨K, hK⟩ : ∃ n, P.length = n := ⟨_, rfl⟩
              have HK := hid hK
              rw [hK]
              have hKi : (K : Int) ≤ 5864062014650 := by have := HPj.out; have := HNP.out; omega
              have HRP := hid hrd19
              clear hrd19 hK HOj HPj hc
              obtain ⟨wa, hwa⟩ : ∃ x, x = wr := ⟨_, rfl⟩
              rw [← hwa] at HRP HBj ⊢
              clear hwa
              have HSA := hid (HSL.out.kept HBj.out)
              have HVAa := hid (HVA.out.kept HSA.out.bel)
              have HRVa := hid (HRV.out.kept HSA.out.bel HRV.out.lt)
              go_wp2_with fail
              go_loopw [21] (fun s21 wx => ∃ t : Nat, t ≤ K ∧ s21 = .int .i64 t ∧ Hid (Below wa.heap.size wa wx)) (fun s _ => K - (intOf s).toNat)
              case atStart => exact ⟨0, Nat.zero_le _, rfl, hid (Below.refl _ _)⟩
              case round =>
                obtain ⟨t, ht, rfl, HBt⟩ := hrel
                by_cases htk : t < K
                · have hti : (t : Int) < K := by omega
                  have htP : t < P.length := by have := HK.out; omega
                  have hpg := pcells_get P t htP
                  generalize P[t] = pk at *
                  obtain ⟨x, off, len⟩ := pk
                  obtain ⟨g19, rfl, n0⟩ := HRP.out _ _ (hpg 0 _ rfl)
                  obtain ⟨_, e1, n1⟩ := HRP.out _ _ (hpg 1 _ rfl)
                  cases e1
                  obtain ⟨_, e2, n2⟩ := HRP.out _ _ (hpg 2 _ rfl)
                  cases e2
                  replace n0 : wr.cell? ⟨g19, t * 3, none⟩ = some (.int .i64 x) := cell_kept HBt.out n0
                  replace n1 := cell_kept HBt.out n1
                  replace n2 := cell_kept HBt.out n2
                  clear hpg
                  have HRB := hid (Row.new wr [.int .i64 x, .int .u64 off, .int .i64 len] 32)
                  have HBM := hid (HBt.out.trans (((Below.refl wr.heap.size wr).alloc (Nat.le_refl _) (.cells #[.int .i64 x, .int .u64 off, .int .i64 len] 32)).mono HBt.out.size))
                  go_upto_region 32 with fail
                  generalize wr.alloc (.cells #[.int .i64 x, .int .u64 off, .int .i64 len] 32) = wm at *
                  generalize wr.heap.size = pb at *
                  clear n0 n1 n2
                  have p0 := HRB.out.cell 0 _ rfl
                  have p1 := HRB.out.cell 1 _ rfl
                  have p2 := HRB.out.cell 2 _ rfl
                  obtain ⟨B, hM⟩ := (HSA.out.kept HBM.out).may x off len
                  have HM := hid hM
                  have HVm := hid (HVAa.out.kept HBM.out)
                  have HRVm := hid (HRVa.out.kept HBM.out HRVa.out.lt)
                  have v0 := HRVm.out.cell 0 _ rfl
                  clear hM
                  obtain ⟨nV, hnV⟩ : ∃ n, V.L.length = n := ⟨_, rfl⟩
                  have HNV := hid hnV
                  rw [hnV] at v0
                  clear hnV
                  have hnVi : (nV : Int) ≤ 1466015503701 := by have := HVm.out.few; have := HNV.out; omega
                  obtain ⟨Gb, hGb⟩ : ∃ q, gdB V.L x B = q := ⟨_, rfl⟩
                  have HGb := hid hGb
                  clear hGb
                  go_cut [23] from 128 to 157 (fun s23 wx => s23 = .bool Gb ∧ Below wm.heap.size wm wx)
                  case first =>
                    by_cases hx0 : 0 ≤ x
                    · have hd0 : decide (0 ≤ x) = true := decide_eq_true hx0
                      by_cases hxn : x < nV
                      · have hd1 : decide (x < (nV : Int)) = true := decide_eq_true hxn
                        obtain ⟨k, rfl⟩ : ∃ k : Nat, x = k := ⟨x.toNat, by omega⟩
                        have hkL : k < V.L.length := by have := HNV.out; omega
                        have hG0 := HGb.out
                        rw [gdB_at hkL] at hG0
                        have HG0 := hid hG0
                        clear hG0 HGb
                        obtain ⟨g, o, ea, hcc⟩ := HVm.out.at_ k hkL
                        rw [ea] at v0
                        have hxk : (k : Int) < nV := by omega
                        generalize V.L[k] = Q at *
                        obtain ⟨u, qb, qk, qs, qw, qi, qh, qc⟩ := Q
                        have c0 : wm.cell? ⟨g, o + k * 12, none⟩ = some (.bool u) := hcc 0 _ rfl
                        have c1 := hcc 1 _ rfl
                        have c2 := hcc 2 _ rfl
                        have c3 := hcc 3 _ rfl
                        have c4 := hcc 4 _ rfl
                        have c5 := hcc 5 _ rfl
                        have c6 := hcc 6 _ rfl
                        have c7 := hcc 7 _ rfl
                        have c8 := hcc 8 _ rfl
                        have c9 := hcc 9 _ rfl
                        have c10 := hcc 10 _ rfl
                        have c11 := hcc 11 _ rfl
                        clear hcc
                        have HRM := hid (fun W => lroom_any W ⟨u, qb, qk, qs, qw, qi, qh, qc⟩)
                        generalize Pv.room ⟨u, qb, qk, qs, qw, qi, qh, qc⟩ = R at *
                        cases R with
                        | false =>
                          as_aux_lemma =>
                            go_wp2_with (go_at_call 10; refine (HRM.out _).mono ?_; rintro e w5 ⟨rfl, hb5⟩; have HB5 := hid hb5; clear hb5)
                            go_meet
                            exact ⟨by rw [← HG0.out]; rfl, HB5.out⟩
                        | true =>
                          as_aux_lemma =>
                            go_wp2_with (first | (go_at_call 10; refine (HRM.out _).mono ?_; rintro e w5 ⟨rfl, hb5⟩; have HB5 := hid hb5; have t0 := cell_kept hb5 p0; have t1 := cell_kept hb5 p1; have t2 := cell_kept hb5 p2; clear hb5) | (go_at_call 26; refine (HM.out _ HB5.out).mono ?_; rintro e w6 ⟨rfl, hb6⟩; have HB6 := hid (HB5.out.trans (hb6.mono HB5.out.size)); clear hb6))
                            go_meet
                            exact ⟨by rw [← HG0.out]; rfl, HB6.out⟩
                      · have hd1 : decide (x < (nV : Int)) = false := decide_eq_false hxn
                        as_aux_lemma =>
                          have hG0 := HGb.out
                          rw [gdB_no (by have := HNV.out; omega)] at hG0
                          subst hG0
                          go_wp2_with fail
                          go_meet
                          exact ⟨rfl, Below.refl _ _⟩
                    · have hd0 : decide (0 ≤ x) = false := decide_eq_false hx0
                      as_aux_lemma =>
                        have hG0 := HGb.out
                        rw [gdB_no (by omega)] at hG0
                        subst hG0
                        go_wp2_with fail
                        go_meet
                        exact ⟨rfl, Below.refl _ _⟩
                  case rest =>
                    obtain ⟨rfl, hb7⟩ := hcut
                    obtain ⟨w7, hw7⟩ : ∃ x, x = wc := ⟨_, rfl⟩
                    rw [← hw7] at hb7 ⊢
                    clear hw7
                    have HB7 := hid hb7
                    have p0' := cell_kept hb7 p0
                    have p1' := cell_kept hb7 p1
                    have p2' := cell_kept hb7 p2
                    clear hb7 p0 p1 p2 v0
                    have HRV7 := hid (HRVm.out.kept HB7.out HRVm.out.lt)
                    have v0 := HRV7.out.cell 0 _ rfl
                    have v1 := HRV7.out.cell 1 _ rfl
                    have v2 := HRV7.out.cell 2 _ rfl
                    have v3 := HRV7.out.cell 3 _ rfl
                    have v4 := HRV7.out.cell 4 _ rfl
                    have v5 := HRV7.out.cell 5 _ rfl
                    have v6 := HRV7.out.cell 6 _ rfl
                    have v7 := HRV7.out.cell 7 _ rfl
                    have v8 := HRV7.out.cell 8 _ rfl
                    have HG : Hid (Calls Try.prog 27 #[V.val, .pointer (some ⟨p, 0, none⟩), .agg #[.int .i64 x, .int .u64 off, .int .i64 len]] w7 fun e w' => e = .returned (.bool Gb) ∧ Below w7.heap.size w7 w') := by
                      have h := guard_any (HVm.out.kept HB7.out) (p := p) x off len (B := B) (fun W hW => HM.out W (HB7.out.trans (hW.mono HB7.out.size)))
                      rw [HGb.out] at h
                      exact h
                    clear HGb HM
                    go_wp2_with fail
                    refine HG.out.mono ?_
                    rintro e w8 ⟨rfl, hb8⟩
                    have HB8 := hid (HB7.out.trans (hb8.mono HB7.out.size))
                    have HRV8 := hid (HRV7.out.kept hb8 HRV7.out.lt)
                    replace p0' := cell_kept hb8 p0'
                    replace p1' := cell_kept hb8 p1'
                    replace p2' := cell_kept hb8 p2'
                    clear hb8 HG HRV7 v0 v1 v2 v3 v4 v5 v6 v7 v8
                    have v0 := HRV8.out.cell 0 _ rfl
                    have v1 := HRV8.out.cell 1 _ rfl
                    have v2 := HRV8.out.cell 2 _ rfl
                    have v3 := HRV8.out.cell 3 _ rfl
                    have v4 := HRV8.out.cell 4 _ rfl
                    have v5 := HRV8.out.cell 5 _ rfl
                    have v6 := HRV8.out.cell 6 _ rfl
                    have v7 := HRV8.out.cell 7 _ rfl
                    have v8 := HRV8.out.cell 8 _ rfl
                    have hgg : (Gb != Gb) = false := by cases Gb <;> rfl
                    go_wp2_with fail
                    refine (guard_nil V x off len).mono ?_
                    rintro e w9 ⟨rfl, hb9⟩
                    have HB9 := hid (HBM.out.trans ((HB8.out.trans (hb9.mono HB8.out.size)).mono HBM.out.size))
                    clear hb9 HRV8 v0 v1 v2 v3 v4 v5 v6 v7 v8 p0' p1' p2'
                    go_wp2_with fail
                    go_roundw
                    case rel => exact ⟨t + 1, htk, by go_num, HB9⟩
                    case measure => simp [intOf]; omega
                · have hti : ¬ (t : Int) < K := by omega
                  have HBwr := hid (HBL.out.trans ((HBj.out.trans (HBt.out.mono HBj.out.size)).mono HBL.out.size))
                  have HBlr := hid (HBj.out.trans (HBt.out.mono HBj.out.size))
                  go_upto_region 38 with (go_at_call 25; refine (HCH.out _ HBwr.out).mono ?_; rintro e w24 ⟨u24', X2, rfl, ho24, hz24, hb24⟩; obtain ⟨a24, c24, rfl, hrd24⟩ := own_rd ho24; have HRD2 := hid hrd24; have HZ2 := hid hz24; have HB24 := hid hb24; clear ho24 hrd24 hz24 hb24)
                  have HBl := hid (HBlr.out.trans (HB24.out.mono HBlr.out.size))
                  clear HBwr HBlr HCH
                  go_wp2_with fail
                  go_loopw [25] (fun s25 wx => ∃ q : Nat, q ≤ NL ∧ s25 = .int .i64 q ∧ Hid (Below w24.heap.size w24 wx)) (fun s _ => NL - (intOf s).toNat)
                  case atStart => exact ⟨0, Nat.zero_le _, rfl, hid (Below.refl _ _)⟩
                  case round =>
                    obtain ⟨q, hq, rfl, HBq⟩ := hrel
                    by_cases hqn : q < NL
                    · have hqi : (q : Int) < NL := by omega
                      have hqL : q < F.L.length := by have := HNL.out; omega
                      obtain ⟨x0, x1, x2, x4, s3, x3, hs3⟩ := HZ.out.at_ q hqL
                      obtain ⟨y0, y1, y2, y4, t3, y3, ht3⟩ := HZ2.out.at_ q hqL
                      obtain ⟨sa, sc, rfl, hsi⟩ := ChZ_ints hs3
                      obtain ⟨ta, tc, rfl, hti2⟩ := ChZ_ints ht3
                      have hbq2 := HBl.out.trans (HBq.out.mono HBl.out.size)
                      obtain ⟨g18, rfl, m0⟩ := HRD.out _ _ x0
                      obtain ⟨_, e1, m1⟩ := HRD.out _ _ x1
                      cases e1
                      obtain ⟨_, e2, m2⟩ := HRD.out _ _ x2
                      cases e2
                      obtain ⟨_, e3, m3⟩ := HRD.out _ _ x3
                      cases e3
                      obtain ⟨_, e4, m4⟩ := HRD.out _ _ x4
                      cases e4
                      obtain ⟨g24, rfl, l0⟩ := HRD2.out _ _ y0
                      obtain ⟨_, e1, l1⟩ := HRD2.out _ _ y1
                      cases e1
                      obtain ⟨_, e2, l2⟩ := HRD2.out _ _ y2
                      cases e2
                      obtain ⟨_, e3, l3⟩ := HRD2.out _ _ y3
                      cases e3
                      obtain ⟨_, e4, l4⟩ := HRD2.out _ _ y4
                      cases e4
                      replace m0 := cell_regrown (cell_kept hbq2 m0)
                      replace l0 := cell_regrown (cell_kept HBq.out l0)
                      replace m1 := cell_regrown (cell_kept hbq2 m1)
                      replace l1 := cell_regrown (cell_kept HBq.out l1)
                      replace m2 := cell_regrown (cell_kept hbq2 m2)
                      replace l2 := cell_regrown (cell_kept HBq.out l2)
                      replace m3 := cell_regrown (cell_kept hbq2 m3)
                      replace l3 := cell_regrown (cell_kept HBq.out l3)
                      replace m4 := cell_regrown (cell_kept hbq2 m4)
                      replace l4 := cell_regrown (cell_kept HBq.out l4)
                      have HSI := hid (hsi.kept hbq2)
                      have HTI := hid (hti2.kept HBq.out)
                      have hfew := onUp_few F.L[q].on
                      clear x0 x1 x2 x3 x4 y0 y1 y2 y3 y4 hs3 ht3 hsi hti2 hbq2
                      obtain ⟨li, hli⟩ : ∃ l, Snd.onUp F.L[q].on 8 = l := ⟨_, rfl⟩
                      rw [hli] at HSI HTI hfew m3 l3
                      clear hli
                      generalize F.L[q] = ck at *
                      have HSC := hid (toK (n := 28) (args := #[.agg #[.int .u64 ck.off, .int .i64 ck.bs.length, .bool ck.fin, .slice sa li.length sc, .bool ck.held], .agg #[.int .u64 ck.off, .int .i64 ck.bs.length, .bool ck.fin, .slice ta li.length tc, .bool ck.held]]) (v := .bool true) (w := wr) (fun w' hb => sameChunk_yes _ _ _ _ (HSI.out.kept hb) (HTI.out.kept hb) rfl hfew))
                      go_upto_region 43 with fail
                      go_cut [189] from 180 to 189 (fun s189 wx => s189 = .bool false ∧ Below wr.heap.size wr wx)
                      case first =>
                        refine wp_region_quiet_below (by kernel_rfl) (by decide +kernel) ?_
                        iterate 10 (quiet_step (first | (go_at_call 28; exact HSC.out _ _)))
                        refine wpQuiet_nil ?_
                        intro _ hw'
                        obtain ⟨⟨dq, osq⟩, hw''⟩ := hw'
                        subst hw''
                        go_wp2_with fail
                        go_meet
                        exact ⟨rfl, below_regrown wr dq osq⟩
                      case rest =>
                        obtain ⟨rfl, hb30⟩ := hcut
                        have HB30 := hid (HBq.out.trans (hb30.mono HBq.out.size))
                        clear hb30
                        go_wp2_with fail
                        go_roundw
                        case rel => exact ⟨q + 1, hqn, by go_num, HB30⟩
                        case measure => simp [intOf]; omega
                    · have hqi : ¬ (q : Int) < NL := by omega
                      go_wp2_with (first | (go_at_call 8; refine (alive_any _).mono ?_; rintro e w40 ⟨rfl, hb40⟩; have HB40 := hid hb40; clear hb40) | (go_at_call 29; refine (passes_any _).mono ?_; rintro e w41 ⟨rfl, hb41⟩; have HB41 := hid (HB40.out.trans (hb41.mono HB40.out.size)); clear hb41))
                      go_ret
                      have h1 := HBl.out.trans (HBq.out.mono HBl.out.size)
                      have h2 := h1.trans (HB41.out.mono h1.size)
                      have h3 := HSL.out.bel.trans (h2.mono HSL.out.bel.size)
                      exact ⟨rfl, HBX.out.trans (h3.mono HBX.out.size)⟩
end Go.Proofs.Ytdbdiebgjnofgab
