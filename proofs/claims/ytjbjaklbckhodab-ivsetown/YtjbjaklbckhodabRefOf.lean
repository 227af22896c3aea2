import Derived.Test.YtjbjaklbckhodabRef0
import Derived.Test.YtjbjaklbckhodabAdds0
import Derived.Deep.CutRange
namespace Go.Proofs.Ytjbjaklbckhodab
open Go.RowKit
set_option maxRecDepth 100000

/-- What the reference's sorted gives. -/
def SortedSaid : Prop := ∀ (w : World) (a : Option Addr) (cap : Nat) (L : List Rg), Cells w a L → L.length * 16 ≤ 140737488355328 → (∀ r ∈ L, 0 ≤ r.1 ∧ r.2 ≤ 18446744073709551615) →
  Calls Try.prog 26 #[.slice a L.length cap] w fun e w' => ∃ v P, e = .returned v ∧ P.Perm (L.filter fun r => decide (r.1 < r.2)) ∧ P.Pairwise (fun a b => a.1 ≤ b.1) ∧ w'.ownsRow w.heap.size 25 2 v P.length (flat P) ∧ Below w.heap.size w w'

theorem owns_mono {w : World} {B B' n : Nat} {v : Value} {xs : List Value} (h : w.ownsRow B 25 2 v n xs) (hb : B' ≤ B) : w.ownsRow B' 25 2 v n xs := by
  refine ⟨h.1, ?_⟩
  rcases h.2 with h | ⟨g, cap, cur, hv, hB, r⟩
  · exact .inl h
  · exact .inr ⟨g, cap, cur, hv, by omega, r⟩
theorem flat_set_last (A : List Rg) (t : Rg) (x : Int) : (flat (A ++ [t])).set (A.length * 2 + 1) (.int .u64 x) = flat (A ++ [(t.1, x)]) := by
  rw [flat_append, flat_append, flat_cons, flat_cons]
  rw [List.set_append_right _ _ (by rw [length_flat]; omega), length_flat, show A.length * 2 + 1 - A.length * 2 = 1 by omega]
  rfl

set_option maxHeartbeats 1000000 in
theorem of_any (hS : SortedSaid) {w : World} {a : Option Addr} {cap : Nat} {L : List Rg} (C : Cells w a L) (hf : L.length * 16 ≤ 140737488355328) (hw : ∀ r ∈ L, 0 ≤ r.1 ∧ r.2 ≤ 18446744073709551615) :
    Calls Try.prog 9 #[.slice a L.length cap] w fun e w' => ∃ v P, e = .returned v ∧ P.Perm (L.filter fun r => decide (r.1 < r.2)) ∧ P.Pairwise (fun a b => a.1 ≤ b.1) ∧ w'.ownsRow w.heap.size 25 2 v (ofL P).length (flat (ofL P)) ∧ Below w.heap.size w w' := by
  have hs := hS w a cap L C hf hw
  have HW : Hid _ := hw
  clear C hS hw
  obtain ⟨i0, hi, hz0, hz1, hz2⟩ := info_parts info29'
  go_enter Try.func9, Try.ntmps9
  go_wp2_with fail
  refine hs.mono ?_
  rintro e w1 ⟨v1, P, rfl, hP, hp, hown, hb⟩
  obtain ⟨a1, c1, rfl, hcel⟩ := owns_shape hown
  have hPl : P.length ≤ L.length := by rw [hP.length_eq]; exact List.length_filter_le _ _
  have hP0 : ∀ r ∈ P, 0 ≤ r.1 ∧ r.1 < r.2 ∧ r.2 ≤ 18446744073709551615 := fun r hr => by
    have h := List.mem_filter.1 (hP.mem_iff.1 hr)
    have := HW.out r h.1
    have h2 := h.2
    simp only [decide_eq_true_eq] at h2
    omega
  have HSO : Hid _ := of_so hP0 hp
  have HP : Hid _ := hP
  have HPP : Hid _ := hp
  have HCEL : Hid _ := hcel
  have HB : Hid _ := hb
  clear hs hP hp hown hb hcel hP0 HW
  go_wp2_with fail
  go_loopg [3, 10] P.length (fun kx v i wr => ∃ k : Nat, k ≤ P.length ∧ P.length - k ≤ kx ∧ i = .int .i64 k ∧ wr.ownsRow w1.heap.size 25 2 v (ofL (P.take k)).length (flat (ofL (P.take k))) ∧ Below w1.heap.size w1 wr)
  case atStart => exact ⟨0, Nat.zero_le _, by omega, rfl, World.ownsRow_nil _ _ _ _, Below.refl _ _⟩
  case round =>
    obtain ⟨k, hk, hkx, rfl, hown, hb⟩ := hrel
    have HO : Hid _ := hown
    have HBr : Hid _ := hb
    have hso := HSO.out k hk
    have hol := hso.len
    rw [List.length_take] at hol
    clear hso hown hb
    by_cases hlt : k < P.length
    · have hki : (k : Int) < (P.length : Int) := by omega
      obtain ⟨g1, rfl, p1, p2⟩ := HCEL.out k hlt
      have e1 := cell_kept HBr.out p1
      have e2 := cell_kept HBr.out p2
      have HSN : Hid _ := ofL_snoc P k hlt
      have HBN : Hid (Below w1.heap.size w1 wr) := HBr.out
      clear p1 p2
      generalize P[k] = r at *
      obtain ⟨rl, rh⟩ := r
      simp only at e1 e2
      generalize ofL (P.take k) = s at *
      obtain ⟨v, hv⟩ : ∃ v, v = u3 := ⟨_, rfl⟩
      subst hv
      have hown := HO.out
      obtain ⟨av, cv, rfl, hcv⟩ := owns_shape hown
      have HOWN : Hid (wr.ownsRow w1.heap.size 25 2 (.slice av s.length cv) s.length (flat s)) := hown
      have hn0 := hol
      have HCV : Hid _ := hcv
      clear hown HO hcv
      have hsz := HBN.out.size
      obtain ⟨t, HTD⟩ : ∃ t : Rg, Hid (t = nth s (s.length - 1)) := ⟨_, rfl⟩
      obtain ⟨tl, th⟩ := t
      obtain ⟨D, HD⟩ : ∃ D : Bool, Hid (D = (decide (0 < s.length) && decide (rl ≤ th))) := ⟨_, rfl⟩
      go_upto_region 6 with fail
      go_cut [28] from 11 to 49 (fun t wx => t = .bool D ∧ ∃ nq, wx = (wr.alloc (.cells #[.int .u64 rl, .int .u64 rh] 25)).drewN nq)
      case first =>
        by_cases hs : s.length = 0
        · have hd0 : decide (0 < s.length) = false := decide_eq_false (by omega)
          have HDF : Hid (D = false) := HD.out.trans (by rw [decide_eq_false (by omega), Bool.false_and])
          go_quiet (fail)
          go_wp2_with fail
          go_meet
          exact ⟨by rw [HDF.out], nq, rfl⟩
        · have hd0 : decide (0 < s.length) = true := decide_eq_true (by omega)
          have HDF : Hid (D = decide (rl ≤ th)) := HD.out.trans (by rw [decide_eq_true (by omega), Bool.true_and])
          obtain ⟨gv, rfl, q1, q2⟩ := HCV.out (s.length - 1) (by omega)
          have hq2 := cell_kept (below_box wr (.cells #[.int .u64 rl, .int .u64 rh] 25)) q2
          rw [← nth_eq (by omega), ← HTD.out] at hq2
          simp only at hq2
          have hn1 : (0 : Int) ≤ (s.length : Int) - 1 := by omega
          have hn2 : (s.length : Int) - 1 < (s.length : Int) := by omega
          have hn3 : ((s.length : Int) - 1).toNat = s.length - 1 := by omega
          have hn4 : IntKind.i64.wrap ((s.length : Int) - 1) = (s.length : Int) - 1 := by rw [IntKind.wrap_i64]; omega
          clear q1 q2
          go_quiet (fail)
          go_wp2_with fail
          go_meet
          exact ⟨by rw [HDF.out], nq, rfl⟩
      case rest =>
        obtain ⟨rfl, nq, hwx⟩ := hcut
        have HOX : Hid (wc.ownsRow w1.heap.size 25 2 (.slice av s.length cv) s.length (flat s)) := by rw [hwx]; exact World.ownsRow.alloc HOWN.out _
        have hbx : Below wr.heap.size wr wc := by rw [hwx]; exact below_drewN (below_box _ _) nq
        have k0 : wc.cell? ⟨wr.heap.size, 0, none⟩ = some (.int .u64 rl) := by rw [hwx]; exact (box_cells wr _ _).1
        have k1 : wc.cell? ⟨wr.heap.size, 1, none⟩ = some (.int .u64 rh) := by rw [hwx]; exact (box_cells wr _ _).2
        clear hwx
        obtain ⟨x0, hx0⟩ : ∃ x0 : World, x0 = wc := ⟨_, rfl⟩
        subst hx0
        have HBX : Hid _ := HBN.out.trans (hbx.mono HBN.out.size)
        have hxs := HBX.out.size
        clear hbx HCV HOWN HBr HBN
        have HST : Hid (ofStep s (rl, rh) = ofL (P.take (k + 1))) := HSN.out.symm
        cases D with
        | false =>
          have HEQ : Hid (flat (ofL (P.take (k + 1))) = flat s ++ [.int .u64 rl, .int .u64 rh] ∧ (ofL (P.take (k + 1))).length = s.length + 1) := by
            have e : ofL (P.take (k + 1)) = s ++ [(rl, rh)] := by
              rw [← HST.out]
              unfold ofStep
              by_cases hs : s = []
              · rw [if_pos hs, hs]; rfl
              · have hl : 0 < s.length := List.length_pos_iff.2 hs
                have h := HD.out
                rw [decide_eq_true hl, Bool.true_and] at h
                rw [if_neg hs, ← HTD.out, if_neg (by simpa using h.symm)]
            exact ⟨by rw [e, flat_append, flat_cons]; rfl, by rw [e]; simp⟩
          go_wp2_with (at_builtin; refine wpList_append_own _ rfl _ _ 30 rfl w1.heap.size 25 i0 (.agg #[.int .u64 0, .int .u64 0]) 2 16 Try.underlying30 hi hz0 hz1 hz2 rfl (by decide) _ _ _ rfl (World.ownsRow.alloc HOX.out _) ⟨x0.heap.size, 0, none⟩ 1 1 [.int .u64 rl, .int .u64 rh] rfl rfl ?c1 ?c2 ?c3 ?c4 ?c5 ?_)
          case c1 =>
            intro j u hj
            match j, hj with
            | 0, hj => simp at hj; subst hj; rw [Addr.add_lit]; exact (box_cells x0 (.int .u64 rl) (.int .u64 rh)).1
            | 1, hj => simp at hj; subst hj; rw [Addr.add_lit]; exact (box_cells x0 (.int .u64 rl) (.int .u64 rh)).2
          case c2 => first | exact pair_one rl rh | exact ⟨rfl, rfl⟩
          case c3 => unfold maxLen; omega
          case c4 => omega
          case c5 => first | omega | (simp; omega)
          · intro v' w2 hown' hgrow _
            have HX : Hid (w2.ownsRow w1.heap.size 25 2 v' (ofL (P.take (k + 1))).length (flat (ofL (P.take (k + 1))))) := by
              show World.ownsRow _ _ _ _ _ _ _
              rw [HEQ.out.1, HEQ.out.2]; exact hown'
            have HBF : Hid (Below w1.heap.size w1 w2) := by
              have hb := HBX.out.trans (Below.mono (below_box x0 (.cells #[.int .u64 rl, .int .u64 rh] 25)) HBX.out.size)
              exact ⟨hgrow.os.trans hb.os, hgrow.tape.trans hb.tape, hgrow.output.trans hb.output, Nat.le_trans hb.size hgrow.size, fun j hj => (hgrow.block j (Nat.lt_of_lt_of_le hj hb.size) (fun e => by have := (HOX.out.lt _ e.symm).1; omega)).trans (hb.block j hj)⟩
            clear hown' hgrow k0 k1
            go_wp2_with fail
            go_roundg (P.length - (k + 1))
            case measure => omega
            case rel => exact ⟨k + 1, hlt, Nat.le_refl _, by go_num, HX.out, HBF.out⟩
        | true =>
          have h := HD.out
          simp only [Bool.true_eq, Bool.and_eq_true, decide_eq_true_eq] at h
          obtain ⟨hl, hle⟩ := h
          have hs : s ≠ [] := List.length_pos_iff.1 hl
          obtain ⟨a', c', ev, hcv⟩ := owns_shape HOX.out
          simp only [Value.slice.injEq, true_and] at ev
          obtain ⟨rfl, rfl⟩ := ev
          obtain ⟨gv, rfl, q1, q2⟩ := hcv (s.length - 1) (by omega)
          rw [← nth_eq (by omega), ← HTD.out] at q2
          simp only at q2
          have hfz := HOX.out.frozenAt ((s.length - 1) * 2 + 1)
          have hn1 : (0 : Int) ≤ (s.length : Int) - 1 := by omega
          have hn2 : (s.length : Int) - 1 < (s.length : Int) := by omega
          have hn3 : ((s.length : Int) - 1).toNat = s.length - 1 := by omega
          have hn4 : IntKind.i64.wrap ((s.length : Int) - 1) = (s.length : Int) - 1 := by rw [IntKind.wrap_i64]; omega
          have HOF : Hid (ofL (P.take (k + 1)) = if th < rh then s.take (s.length - 1) ++ [(tl, rh)] else s) := by
            show _ = _
            rw [← HST.out]
            unfold ofStep
            rw [if_neg hs, ← HTD.out, if_pos hle]
          have HLS : Hid (s = s.take (s.length - 1) ++ [(tl, th)]) := by
            have := last_split s hs
            rwa [← HTD.out] at this
          clear q1 hcv
          by_cases h2 : th < rh
          · have hd : decide (th < rh) = true := by simp; omega
            have HE : Hid _ := HOF.out.trans (if_pos h2)
            have HNEW : Hid (Hid ((x0.setCell ⟨gv, (s.length - 1) * 2 + 1, none⟩ (.int .u64 rh)).ownsRow w1.heap.size 25 2 (.slice (some ⟨gv, 0, none⟩) s.length cv) (ofL (P.take (k + 1))).length (flat (ofL (P.take (k + 1))))) ∧ w1.heap.size ≤ gv) := by
              have hst := (HOX.out.stored ((s.length - 1) * 2 + 1) (.int .u64 rh)).1
              have hlA : (s.take (s.length - 1)).length = s.length - 1 := by simp
              have hfl := flat_set_last (s.take (s.length - 1)) (tl, th) rh
              rw [← HLS.out, hlA] at hfl
              rw [hfl] at hst
              refine ⟨?_, (HOX.out.lt gv rfl).1⟩
              show World.ownsRow _ _ _ _ _ _ _
              rw [HE.out]
              have hlen : (s.take (s.length - 1) ++ [(tl, rh)]).length = s.length := by simp; omega
              rw [hlen]
              exact hst
            go_wp2_with fail
            go_quiet (fail)
            go_wp2_with fail
            go_roundg (P.length - (k + 1))
            case measure => omega
            case rel => exact ⟨k + 1, hlt, Nat.le_refl _, by go_num, HNEW.out.1.out, below_drewN (HBX.out.setCell HNEW.out.2 _) _⟩
          · have hd : decide (th < rh) = false := by simp; omega
            have HE : Hid _ := HOF.out.trans (if_neg h2)
            go_wp2_with fail
            go_quiet (fail)
            go_wp2_with fail
            go_roundg (P.length - (k + 1))
            case measure => omega
            case rel => exact ⟨k + 1, hlt, Nat.le_refl _, by go_num, by rw [HE.out]; exact HOX.out, below_drewN HBX.out _⟩
    · obtain rfl : k = P.length := by omega
      have hki : ¬ (P.length : Int) < (P.length : Int) := by omega
      have hE := HO.out
      rw [List.take_length] at hE
      have HE : Hid _ := hE
      clear hE HO
      go_wp2_with fail
      go_ret
      exact ⟨_, rfl, P, HP.out, HPP.out, owns_mono HE.out HB.out.size, HB.out.trans (HBr.out.mono HB.out.size)⟩

end Go.Proofs.Ytjbjaklbckhodab
