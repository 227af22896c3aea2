import Derived.Test.YtbkfmknjbdonlaaListN
namespace Go.Proofs.Ytbkfmknjbdonlaa
open Go.RowKit Go.Maps
set_option maxRecDepth 100000

/-- How a row of items is read. -/
theorem own_view {w : World} {base : Nat} {v : Value} {L : List It} (h : w.ownsRow base 60 5 v L.length (flatI L)) : ∃ a cap, v = .slice a L.length cap ∧ ∀ k (hk : k < L.length), ∃ g, a = some ⟨g, 0, none⟩ ∧ base ≤ g ∧
    w.cell? ⟨g, k * 5, none⟩ = some (.int .u64 L[k].num) ∧ w.cell? ⟨g, k * 5 + 1, none⟩ = some (.int .i64 L[k].kind) ∧ w.cell? ⟨g, k * 5 + 2, none⟩ = some (.int .u64 L[k].off) ∧ w.cell? ⟨g, k * 5 + 3, none⟩ = some (.int .i64 L[k].len) ∧ w.cell? ⟨g, k * 5 + 4, none⟩ = some (.int .u64 L[k].at_) := by
  rcases h.2 with ⟨rfl, h0⟩ | ⟨g, cap, cur, rfl, h1, h2, h3, h4, h5, h6⟩
  · exact ⟨none, 0, by rw [h0], fun k hk => by omega⟩
  · refine ⟨_, cap, rfl, fun k hk => ⟨g, rfl, h1, ?_⟩⟩
    have hf := flatI_get L k hk
    have hc : ∀ j u, j < L.length * 5 → (flatI L)[j]? = some u → w.cell? ⟨g, j, none⟩ = some u := fun j u hj hu => by
      rw [cell_of_row w g _ _ _ _ h2]
      rw [← h6, List.getElem?_take_of_lt hj] at hu
      simpa using hu
    exact ⟨hc _ _ (by omega) hf.1, hc _ _ (by omega) hf.2.1, hc _ _ (by omega) hf.2.2.1, hc _ _ (by omega) hf.2.2.2.1, hc _ _ (by omega) hf.2.2.2.2⟩
theorem key36 {n : Int} (h0 : 0 ≤ n) (h1 : n ≤ 18446744073709551615) : keyOf Try.prog 36 (.int .u64 n) = some (kw n) := by
  refine keyOf_int_mk Try.underlying36 ?_
  simp [Lit.wf, show IntKind.u64.min = 0 by decide, show IntKind.u64.max = 18446744073709551615 by decide]
  omega
theorem Only.grown {S : List Nat} {w w' w'' : World} (h : Only S w w') {b : Nat} (hg : w'.grownBy w'' (some b)) (hb : b ∈ S ∨ w.heap.size ≤ b) : Only S w w'' :=
  ⟨hg.os.trans h.os, hg.tape.trans h.tape, hg.output.trans h.output, Nat.le_trans h.size hg.size, fun k hk hs => (hg.block k (Nat.lt_of_lt_of_le hk h.size) (fun e => by simp only [Option.some.injEq] at e; subst e; rcases hb with h1 | h1; exact hs h1; omega)).trans (h.block k hk hs)⟩

theorem own_only {w w' : World} {base : Nat} {e : TypeId} {size : Nat} {v : Value} {n : Nat} {xs : List Value} {S : List Nat} (h : w.ownsRow base e size v n xs) (ho : Only S w w') (hS : ∀ g, v.ownBlock = some g → g ∉ S) : w'.ownsRow base e size v n xs := by
  refine ⟨h.1, ?_⟩
  rcases h.2 with ⟨rfl, h0⟩ | ⟨g, cap, cur, rfl, h1, h2, h3⟩
  · exact .inl ⟨rfl, h0⟩
  · exact .inr ⟨g, cap, cur, rfl, h1, (ho.block g (Array.getElem?_eq_some_iff.1 h2).1 (hS g rfl)).trans h2, h3⟩
set_option maxHeartbeats 2000000 in
/-- Those that are wanted are taken out. -/
theorem take_one (hSort : SortI) {w : World} {b : Nat} {U : List It} (hm : OwnU w b U) (hU : Rising U) (hN : ∀ x ∈ U, 0 ≤ x.num ∧ x.num ≤ 18446744073709551615) (hlen : U.length * 40 ≤ 140737488355328) (f : Nat) (c0 : Value) (p : It → Bool)
    (eg : ∀ args w, (callFunc f args).run Try.prog w = .ok (.enter f args) w)
    (hf : ∀ (W : World) (x : It), x ∈ U → Below w.heap.size w W → Calls Try.prog f #[x.val, c0] W fun e w' => e = .returned (.bool (p x)) ∧ Below W.heap.size W w') :
    Calls Try.prog 43 #[.map (some b), .func (.func f) #[] #[c0]] w fun e w' => ∃ v, e = .returned v ∧ w'.ownsRow w.heap.size 60 5 v (U.filter p).length (flatI (U.filter p)) ∧ OwnU w' b (U.filter fun x => !p x) ∧ Only [b] w w' := by
  have hbw : b < w.heap.size := World.ownsMap.lt hm
  have hL := list_one hSort hm hU hlen f c0 p eg hf
  have HU : Hid _ := hU
  have HN : Hid _ := hN
  have HM : Hid _ := hm
  clear hf hU hN hm eg
  obtain ⟨L, hLe⟩ : ∃ L, L = U.filter p := ⟨_, rfl⟩
  have HMEM : Hid (∀ x ∈ L, x ∈ U) := fun x hx => by rw [hLe] at hx; exact (List.mem_filter.1 hx).1
  have HDONE : Hid (lessK U L L.length = U.filter fun y => !p y) := by rw [hLe]; exact lessK_done HU.out p
  have hLl : L.length ≤ U.length := by rw [hLe]; exact List.length_filter_le _ _
  rw [← hLe] at hL ⊢
  clear hLe
  go_enter Try.func43, Try.ntmps43
  go_wp2_with (go_at_call 54; refine hL.mono ?_; rintro e w1 ⟨v, rfl, hrow, hb1⟩; obtain ⟨a, cap, rfl, hv⟩ := own_view hrow; have HROW := hid hrow; have HB1 := hid hb1; have HV := hid hv; clear hrow hb1 hv)
  have HM1 := hid (OwnU.below HM.out HB1.out)
  clear HM
  have HO1 : Hid (Only [b] w w1) := Only.of_below HB1.out (Nat.le_refl _)
  go_loopw [13] (fun s13 wr => ∃ k : Nat, k ≤ L.length ∧ s13 = .int .i64 k ∧ OwnU wr b (lessK U L k) ∧ Only [b] w1 wr) (fun s _ => L.length - (intOf s).toNat)
  case atStart => exact ⟨0, Nat.zero_le _, rfl, by rw [lessK_zero]; exact HM1.out, Only.refl _ _⟩
  case round =>
    obtain ⟨k, hk, rfl, hm, ho⟩ := hrel
    have HMk := hid hm
    have HOk := hid ho
    clear hm ho
    by_cases hlt : k < L.length
    · obtain ⟨g, rfl, hg, c0, c1, c2, c3, c4⟩ := HV.out k hlt
      have hgb : g ∉ [b] := by simp; omega
      have d0 := HOk.out.cell c0 hgb
      have d1 := HOk.out.cell c1 hgb
      have d2 := HOk.out.cell c2 hgb
      have d3 := HOk.out.cell c3 hgb
      have d4 := HOk.out.cell c4 hgb
      have hn := HN.out L[k] (HMEM.out _ (List.getElem_mem hlt))
      have HK := hid (lessK_step U L k hlt)
      clear c0 c1 c2 c3 c4
      generalize L[k] = x at *
      obtain ⟨n, kk, o, l, t⟩ := x
      simp only at d0 d1 d2 d3 d4 hn
      have hki : (k : Int) < (L.length : Int) := by omega
      have HKEY := hid (key36 hn.1 hn.2)
      clear hn
      go_wp2_with (at_delete; refine wpList_delete_own _ rfl _ _ 83 36 rfl 60 law36 Try.underlying83 readIt b _ _ rfl (World.ownsMap.alloc HMk.out _) _ _ rfl HKEY.out ?_; intro w2 hown2 hturn2; have HO2 := hid hown2; have HT2 := hid hturn2; clear hown2 hturn2)
      go_roundw
      case rel =>
        refine ⟨k + 1, hlt, by go_num, ?_, ?_⟩
        · have := HO2.out
          rw [UD_del, HK.out] at this
          exact own_tight this
        · exact (HOk.out.alloc _).grown HT2.out.grown (.inl (by simp))
      case measure => simp [intOf]; omega
    · have e : k = L.length := by omega
      subst e
      have hki : ¬ (L.length : Int) < (L.length : Int) := by omega
      go_wp2
      go_ret
      have := HMk.out
      rw [HDONE.out] at this
      exact ⟨.slice a L.length cap, rfl, own_only HROW.out HOk.out (fun g hg => by have := own_ge HROW.out hg; simp; omega), this, HO1.out.trans HOk.out (by simp)⟩
set_option maxHeartbeats 2000000 in
/-- Those that are wanted are taken out. -/
theorem take_none (hSort : SortI) {w : World} {b : Nat} {U : List It} (hm : OwnU w b U) (hU : Rising U) (hN : ∀ x ∈ U, 0 ≤ x.num ∧ x.num ≤ 18446744073709551615) (hlen : U.length * 40 ≤ 140737488355328) (f : Nat) (p : It → Bool)
    (eg : ∀ args w, (callFunc f args).run Try.prog w = .ok (.enter f args) w)
    (hf : ∀ (W : World) (x : It), x ∈ U → Below w.heap.size w W → Calls Try.prog f #[x.val] W fun e w' => e = .returned (.bool (p x)) ∧ Below W.heap.size W w') :
    Calls Try.prog 43 #[.map (some b), .func (.func f) #[] #[]] w fun e w' => ∃ v, e = .returned v ∧ w'.ownsRow w.heap.size 60 5 v (U.filter p).length (flatI (U.filter p)) ∧ OwnU w' b (U.filter fun x => !p x) ∧ Only [b] w w' := by
  have hbw : b < w.heap.size := World.ownsMap.lt hm
  have hL := list_none hSort hm hU hlen f p eg hf
  have HU : Hid _ := hU
  have HN : Hid _ := hN
  have HM : Hid _ := hm
  clear hf hU hN hm eg
  obtain ⟨L, hLe⟩ : ∃ L, L = U.filter p := ⟨_, rfl⟩
  have HMEM : Hid (∀ x ∈ L, x ∈ U) := fun x hx => by rw [hLe] at hx; exact (List.mem_filter.1 hx).1
  have HDONE : Hid (lessK U L L.length = U.filter fun y => !p y) := by rw [hLe]; exact lessK_done HU.out p
  have hLl : L.length ≤ U.length := by rw [hLe]; exact List.length_filter_le _ _
  rw [← hLe] at hL ⊢
  clear hLe
  go_enter Try.func43, Try.ntmps43
  go_wp2_with (go_at_call 54; refine hL.mono ?_; rintro e w1 ⟨v, rfl, hrow, hb1⟩; obtain ⟨a, cap, rfl, hv⟩ := own_view hrow; have HROW := hid hrow; have HB1 := hid hb1; have HV := hid hv; clear hrow hb1 hv)
  have HM1 := hid (OwnU.below HM.out HB1.out)
  clear HM
  have HO1 : Hid (Only [b] w w1) := Only.of_below HB1.out (Nat.le_refl _)
  go_loopw [13] (fun s13 wr => ∃ k : Nat, k ≤ L.length ∧ s13 = .int .i64 k ∧ OwnU wr b (lessK U L k) ∧ Only [b] w1 wr) (fun s _ => L.length - (intOf s).toNat)
  case atStart => exact ⟨0, Nat.zero_le _, rfl, by rw [lessK_zero]; exact HM1.out, Only.refl _ _⟩
  case round =>
    obtain ⟨k, hk, rfl, hm, ho⟩ := hrel
    have HMk := hid hm
    have HOk := hid ho
    clear hm ho
    by_cases hlt : k < L.length
    · obtain ⟨g, rfl, hg, c0, c1, c2, c3, c4⟩ := HV.out k hlt
      have hgb : g ∉ [b] := by simp; omega
      have d0 := HOk.out.cell c0 hgb
      have d1 := HOk.out.cell c1 hgb
      have d2 := HOk.out.cell c2 hgb
      have d3 := HOk.out.cell c3 hgb
      have d4 := HOk.out.cell c4 hgb
      have hn := HN.out L[k] (HMEM.out _ (List.getElem_mem hlt))
      have HK := hid (lessK_step U L k hlt)
      clear c0 c1 c2 c3 c4
      generalize L[k] = x at *
      obtain ⟨n, kk, o, l, t⟩ := x
      simp only at d0 d1 d2 d3 d4 hn
      have hki : (k : Int) < (L.length : Int) := by omega
      have HKEY := hid (key36 hn.1 hn.2)
      clear hn
      go_wp2_with (at_delete; refine wpList_delete_own _ rfl _ _ 83 36 rfl 60 law36 Try.underlying83 readIt b _ _ rfl (World.ownsMap.alloc HMk.out _) _ _ rfl HKEY.out ?_; intro w2 hown2 hturn2; have HO2 := hid hown2; have HT2 := hid hturn2; clear hown2 hturn2)
      go_roundw
      case rel =>
        refine ⟨k + 1, hlt, by go_num, ?_, ?_⟩
        · have := HO2.out
          rw [UD_del, HK.out] at this
          exact own_tight this
        · exact (HOk.out.alloc _).grown HT2.out.grown (.inl (by simp))
      case measure => simp [intOf]; omega
    · have e : k = L.length := by omega
      subst e
      have hki : ¬ (L.length : Int) < (L.length : Int) := by omega
      go_wp2
      go_ret
      have := HMk.out
      rw [HDONE.out] at this
      exact ⟨.slice a L.length cap, rfl, own_only HROW.out HOk.out (fun g hg => by have := own_ge HROW.out hg; simp; omega), this, HO1.out.trans HOk.out (by simp)⟩
end Go.Proofs.Ytbkfmknjbdonlaa
