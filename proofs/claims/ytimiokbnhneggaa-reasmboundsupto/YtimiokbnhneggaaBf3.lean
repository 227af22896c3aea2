import Derived.Test.YtimiokbnhneggaaCome
namespace Go.Proofs.Ytimiokbnhneggaa
open Go.RowKit Go.Maps Go.Sort
set_option maxRecDepth 100000

def Bf.next (F : Bf) : Int := if F.done = true then F.fin + 1 else F.gap
set_option maxHeartbeats 2000000 in
theorem next_any {w : World} {p b : Nat} {v : Value} {F : Bf} (h : BufR w p v b F) :
    Calls Try.prog 19 #[.pointer (some ⟨p, 0, none⟩)] w fun e w' => e = .returned (.int .u64 F.next) ∧ Below w.heap.size w w' := by
  have HN := hid (none_no h)
  have HD := hid (done_any h)
  have H := hid h
  have f0 := h.ok.fin0
  have f1 : F.fin ≤ 9223372038000000000 := by have := h.ok.fin1; have := h.ok.rm; have := h.ok.r1; omega
  clear h
  unfold Bf.next
  cases hd : F.done with
  | true =>
    rw [hd] at HD
    clear hd
    go_enter Try.func19, Try.ntmps19
    go_upto_region 4 with (first | (go_at_call 27; refine HN.out.mono ?_; rintro e w1 ⟨rfl, rfl⟩) | (go_at_call 29; refine HD.out.mono ?_; rintro e w2 ⟨rfl, hb⟩; have HB := hid hb; clear hb))
    have c6 := (H.out.kept HB.out).row.cell 6 _ rfl
    go_wp2_with fail
    go_ret
    exact ⟨rfl, HB.out⟩
  | false =>
    rw [hd] at HD
    clear hd
    go_enter Try.func19, Try.ntmps19
    go_upto_region 5 with (first | (go_at_call 27; refine HN.out.mono ?_; rintro e w1 ⟨rfl, rfl⟩) | (go_at_call 29; refine HD.out.mono ?_; rintro e w2 ⟨rfl, hb⟩; have HB := hid hb; clear hb))
    have K1 := hid (H.out.kept HB.out).gapK
    have v5 := cell_regrown ((H.out.kept HB.out).row.cell 5 _ rfl)
    refine wp_region_quiet_below (by kernel_rfl) (by decide +kernel) ?_
    repeat (quiet_step (first | (go_at_call 28; exact K1.out _ _)))
    refine wpQuiet_nil ?_
    intro w3 hw'
    have hb3 : Below w2.heap.size w2 w3 := by obtain ⟨⟨dq, osq⟩, rfl⟩ := hw'; exact below_regrown w2 dq osq
    have HB3 := hid (HB.out.trans (hb3.mono HB.out.size))
    clear hw' K1 v5 hb3
    go_wp2_with fail
    go_ret
    exact ⟨rfl, HB3.out⟩
/-- Why an end is not taken; 0, if it is. -/
def Bf.finE (F : Bf) (off : Int) : Int := if F.edge < off then 83 else if (F.ends = true ∧ off ≠ F.fin) ∨ off < comeOf F.read F.L then 84 else 0
def Bf.endAt (F : Bf) (off : Int) : Bf := if F.finE off = 0 then { F with fin := off, ends := true } else F
/-- Nothing but the block p is another one. -/
theorem BufR.ended {w : World} {p b : Nat} {v : Value} {F : Bf} (h : BufR w p v b F) (off : Int) (ho : F.finE off = 0) (h0 : 0 ≤ off) : BufR ((w.setCell ⟨p, 7, none⟩ (.bool true)).setCell ⟨p, 6, none⟩ (.int .u64 off)) p v b (F.endAt off) := by
  have e : F.endAt off = { F with fin := off, ends := true } := by unfold Bf.endAt; rw [if_pos ho]
  rw [e]
  have r2 := (h.row.set 7 (.bool true)).set 6 (.int .u64 off)
  refine ⟨⟨r2.at_, ?_⟩, ?_⟩
  · obtain ⟨h1, h2⟩ := h.set.own
    refine ⟨h1, ?_⟩
    rcases h2 with h2 | ⟨g, cap, cur, hv, k1, hg, k2⟩
    · exact .inl h2
    · have hne : g ≠ p := fun e => h.set.apart (by rw [hv, e]; rfl)
      refine .inr ⟨g, cap, cur, hv, k1, ?_, k2⟩
      rw [Below.heap_setCell _ _ _ _ hne, Below.heap_setCell _ _ _ _ hne]
      exact hg
  · have k := h.ok
    unfold Bf.finE at ho
    have ho1 : ¬ F.edge < off := fun e => by rw [if_pos e] at ho; cases ho
    rw [if_neg ho1] at ho
    have ho2 : ¬ ((F.ends = true ∧ off ≠ F.fin) ∨ off < comeOf F.read F.L) := fun e => by rw [if_pos e] at ho; cases ho
    have hc : comeOf F.read F.L ≤ off := by
      by_cases hh : off < comeOf F.read F.L
      · exact absurd (.inr hh) ho2
      · omega
    unfold Bf.edge at ho1
    have hlast : ∀ r ∈ F.L, r.2 ≤ comeOf F.read F.L := fun r hr => by
      obtain ⟨i, hi, rfl⟩ := List.getElem_of_mem hr
      have hne : F.L ≠ [] := fun e => by rw [e] at hi; simp at hi
      have : comeOf F.read F.L = (F.L[F.L.length - 1]'(by omega)).2 := by unfold comeOf; rw [List.getLast?_eq_getElem?, List.getElem?_eq_getElem (by omega)]; rfl
      rw [this]
      exact k.fit.mono_hi i (F.L.length - 1) (by omega) (by omega)
    have hread : F.read ≤ comeOf F.read F.L := by
      cases hL : F.L with
      | nil => exact Int.le_refl _
      | cons r l =>
        have h1 := k.inn r (by rw [hL]; simp)
        have h2 := k.fit.1 r (by rw [hL]; simp)
        have h3 := hlast r (by rw [hL]; simp)
        rw [hL] at h3
        omega
    exact ⟨k.fit, k.b0, k.b1, k.r0, k.r1, k.g0, k.g1, k.rd, k.rm, k.rm2, k.inn, k.few, h0, by simp only; omega, by simp, fun _ => ⟨by simp only; omega, fun r hr => by have := hlast r hr; simp only; omega⟩⟩
set_option maxHeartbeats 4000000 in
theorem fin_any {w : World} {p b : Nat} {v : Value} {F : Bf} (h : BufR w p v b F) (off : Int) (h0 : 0 ≤ off) :
    Calls Try.prog 18 #[.pointer (some ⟨p, 0, none⟩), .int .u64 off] w fun e w' => e = .returned (.int .i64 (F.finE off)) ∧ BufR w' p v b (F.endAt off) ∧ Fr (fun k => k = p) w w' := by
  have HN := hid (none_no h)
  have HE0 : Hid (Calls Try.prog 17 #[.pointer (some ⟨p, 0, none⟩)] w fun e w' => e = .returned (.int .u64 F.edge) ∧ ∃ q, w' = w.drewN q) := edge_any h
  have HCM : Hid (∀ q, Calls Try.prog 38 #[.pointer (some ⟨p, 0, none⟩)] (w.drewN q) fun e w' => e = .returned (.int .u64 (comeOf F.read F.L)) ∧ Below w.heap.size w w') := fun q => (come_any (h.kept (below_drewN (Below.refl _ w) q))).mono fun e w' ⟨h1, h2⟩ => ⟨h1, ⟨h2.os, h2.tape, h2.output, h2.size, h2.block⟩⟩
  have HC6 : Hid (∀ q, (w.drewN q).cell? ⟨p, 6, none⟩ = some (.int .u64 F.fin)) := fun q => cell_drewN (h.row.cell 6 _ rfl)
  have HC7 : Hid (∀ q, (w.drewN q).cell? ⟨p, 7, none⟩ = some (.bool F.ends)) := fun q => cell_drewN (h.row.cell 7 _ rfl)
  have HQ : Hid (∀ q, BufR (w.drewN q) p v b F) := fun q => h.kept (below_drewN (Below.refl _ w) q)
  have HNO : Hid (F.finE off ≠ 0 → ∀ w', Below w.heap.size w w' → BufR w' p v b (F.endAt off) ∧ Fr (fun k => k = p) w w') := fun hne w' hb => ⟨by unfold Bf.endAt; rw [if_neg hne]; exact h.kept hb, Fr.of_below hb (Nat.le_refl _)⟩
  have HYES : Hid (F.finE off = 0 → ∀ w', Below w.heap.size w w' → BufR ((w'.setCell ⟨p, 7, none⟩ (.bool true)).setCell ⟨p, 6, none⟩ (.int .u64 off)) p v b (F.endAt off) ∧ Fr (fun k => k = p) w ((w'.setCell ⟨p, 7, none⟩ (.bool true)).setCell ⟨p, 6, none⟩ (.int .u64 off))) := fun he w' hb => by
    refine ⟨(h.kept hb).ended off he h0, (Fr.of_below hb (Nat.le_refl _)).trans (T := fun k => k = p) ⟨rfl, rfl, rfl, by simp [World.setCell], fun k _ hk => ?_⟩ (fun _ e => .inl e)⟩
    rw [Below.heap_setCell _ _ _ _ hk, Below.heap_setCell _ _ _ _ hk]
  have HF : Hid (∀ w', Below w.heap.size w w' → w'.cell? ⟨p, 7, none⟩ = some (.bool F.ends) ∧ w'.cell? ⟨p, 6, none⟩ = some (.int .u64 F.fin) ∧ w'.frozen? ⟨p, 7, none⟩ = false ∧ w'.frozen? ⟨p, 6, none⟩ = false) := fun w' hb => ⟨(h.kept hb).row.cell 7 _ rfl, (h.kept hb).row.cell 6 _ rfl, (h.kept hb).row.frozen 7, (h.kept hb).row.frozen 6⟩
  have c0 : 0 ≤ comeOf F.read F.L ∨ True := .inr trivial
  clear h c0
  have HFE : Hid (F.finE off = if F.edge < off then 83 else if (F.ends = true ∧ off ≠ F.fin) ∨ off < comeOf F.read F.L then 84 else 0) := rfl
  generalize F.endAt off = G at *
  generalize F.finE off = fe at *
  generalize F.edge = E at *
  generalize comeOf F.read F.L = cm at *
  by_cases hg1 : E < off
  · have HV := hid (HFE.out.trans (if_pos hg1))
    rw [HV.out] at HNO ⊢
    go_enter Try.func18, Try.ntmps18
    go_wp2_with (first | (go_at_call 27; refine HN.out.mono ?_; rintro e w1 ⟨rfl, rfl⟩) | (go_at_call 17; refine HE0.out.mono ?_; rintro e w1 ⟨rfl, q1, rfl⟩))
    go_ret
    exact ⟨rfl, HNO.out (by decide) _ (below_drewN (Below.refl _ _) q1)⟩
  by_cases hg2 : F.ends = true ∧ off ≠ F.fin
  · have HV := hid (HFE.out.trans ((if_neg hg1).trans (if_pos (.inl hg2))))
    rw [HV.out] at HNO ⊢
    obtain ⟨hen, hof⟩ := hg2
    rw [hen] at HC7
    clear HFE HV HYES HF
    generalize F.fin = fi at *
    go_enter Try.func18, Try.ntmps18
    go_upto_region 5 with (first | (go_at_call 27; refine HN.out.mono ?_; rintro e w1 ⟨rfl, rfl⟩) | (go_at_call 17; refine HE0.out.mono ?_; rintro e w1 ⟨rfl, q1, rfl⟩))
    have c6 := HC6.out q1
    have c7 := HC7.out q1
    clear HC6 HC7
    go_wp2_with fail
    go_ret
    exact ⟨rfl, HNO.out (by decide) _ (below_drewN (Below.refl _ _) q1)⟩
  by_cases hg3 : off < cm
  · have HV := hid (HFE.out.trans ((if_neg hg1).trans (if_pos (.inr hg3))))
    rw [HV.out] at HNO ⊢
    clear HFE HV HYES HF
    cases hen : F.ends with
    | true =>
      have hof : off = F.fin := Classical.byContradiction fun e => hg2 ⟨hen, e⟩
      clear hg2
      rw [hen] at HC7
      rw [← hof] at HC6
      clear hen hof
      go_enter Try.func18, Try.ntmps18
      go_upto_region 5 with (first | (go_at_call 27; refine HN.out.mono ?_; rintro e w1 ⟨rfl, rfl⟩) | (go_at_call 17; refine HE0.out.mono ?_; rintro e w1 ⟨rfl, q1, rfl⟩))
      have c6 := HC6.out q1
      have c7 := HC7.out q1
      have hcm := HCM.out q1
      clear HC6 HC7 HCM
      go_wp2_with (go_at_call 38; refine hcm.mono ?_; rintro e w3 ⟨rfl, hb⟩; have HB := hid hb; clear hb hcm)
      go_ret
      exact ⟨rfl, HNO.out (by decide) _ HB.out⟩
    | false =>
      clear hg2
      rw [hen] at HC7
      clear hen
      go_enter Try.func18, Try.ntmps18
      go_upto_region 5 with (first | (go_at_call 27; refine HN.out.mono ?_; rintro e w1 ⟨rfl, rfl⟩) | (go_at_call 17; refine HE0.out.mono ?_; rintro e w1 ⟨rfl, q1, rfl⟩))
      have c6 := HC6.out q1
      have c7 := HC7.out q1
      have hcm := HCM.out q1
      clear HC6 HC7 HCM
      go_wp2_with (go_at_call 38; refine hcm.mono ?_; rintro e w3 ⟨rfl, hb⟩; have HB := hid hb; clear hb hcm)
      go_ret
      exact ⟨rfl, HNO.out (by decide) _ HB.out⟩
  · have HV := hid (HFE.out.trans ((if_neg hg1).trans (if_neg (fun e => e.elim hg2 hg3))))
    rw [HV.out] at HYES ⊢
    clear HFE HV HNO
    cases hen : F.ends with
    | true =>
      have hof : off = F.fin := Classical.byContradiction fun e => hg2 ⟨hen, e⟩
      clear hg2
      rw [hen] at HC7 HF
      rw [← hof] at HC6 HF
      clear hen hof
      go_enter Try.func18, Try.ntmps18
      go_upto_region 5 with (first | (go_at_call 27; refine HN.out.mono ?_; rintro e w1 ⟨rfl, rfl⟩) | (go_at_call 17; refine HE0.out.mono ?_; rintro e w1 ⟨rfl, q1, rfl⟩))
      have c6 := HC6.out q1
      have c7 := HC7.out q1
      have hcm := HCM.out q1
      clear HC6 HC7 HCM
      go_upto_region 8 with (go_at_call 38; refine hcm.mono ?_; rintro e w3 ⟨rfl, hb⟩; have HB := hid hb; clear hb hcm)
      obtain ⟨d7, d6, f7, f6⟩ := HF.out _ HB.out
      have HY := hid (HYES.out trivial _ HB.out)
      clear HF HYES
      go_wp2_with fail
      go_ret
      exact ⟨rfl, HY.out⟩
    | false =>
      clear hg2
      rw [hen] at HC7 HF
      clear hen
      go_enter Try.func18, Try.ntmps18
      go_upto_region 5 with (first | (go_at_call 27; refine HN.out.mono ?_; rintro e w1 ⟨rfl, rfl⟩) | (go_at_call 17; refine HE0.out.mono ?_; rintro e w1 ⟨rfl, q1, rfl⟩))
      have c6 := HC6.out q1
      have c7 := HC7.out q1
      have hcm := HCM.out q1
      clear HC6 HC7 HCM
      go_upto_region 8 with (go_at_call 38; refine hcm.mono ?_; rintro e w3 ⟨rfl, hb⟩; have HB := hid hb; clear hb hcm)
      obtain ⟨d7, d6, f7, f6⟩ := HF.out _ HB.out
      have HY := hid (HYES.out trivial _ HB.out)
      clear HF HYES
      go_wp2_with fail
      go_ret
      exact ⟨rfl, HY.out⟩
end Go.Proofs.Ytimiokbnhneggaa
