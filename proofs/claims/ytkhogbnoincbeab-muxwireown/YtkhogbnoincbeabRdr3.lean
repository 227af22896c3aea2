import Derived.Test.YtkhogbnoincbeabRdr2
import Derived.Laws.CopyOwn
import Derived.Deep.RegionLaw
namespace Go.Proofs.Ytkhogbnoincbeab
open Go.RowKit Go.Maps Go.Sort
set_option maxRecDepth 100000

/-- The bytes of an own row from x on are copied to its front. -/
theorem step_move {ops : Array Oper} {o : Oper} {a : Act} {w : World} {K : Act → World → Prop} {Q : Exit → Act → World → Prop} {E : Prop} (hgd : o.guard = none) (d s : Operand)
    (ho : o.op = .call { callee := .builtin .copy, args := #[d, s], argTypes := #[27, 27] }) {B g cap x sLen sCap : Nat} {all : List (BitVec 8)} {sp : Option Addr}
    (own : OwnBy w B (.slice (some ⟨g, 0, none⟩) all.length cap) all) (hd : a.eval d = .slice (some ⟨g, 0, none⟩) all.length cap) (hs : a.eval s = .slice sp sLen sCap) (had : 0 < sLen → sp = some ⟨g, x, none⟩) (hx : x + sLen = all.length)
    (h : ∀ w', Hid (w'.ownsRow B 5 1 (.slice (some ⟨g, 0, none⟩) sLen cap) sLen (bcells (all.drop x))) → Hid (Fr (fun y => y = g) w w') → K (a.put o.dst (goInt sLen)) w') :
    if Region.wanted o (yielded ops a.tmps) = true then Oper.wp Try.prog o a w K Q else E := by
  have hw : Region.wanted o (yielded ops a.tmps) = true := by simp [Region.wanted, hgd]
  rw [if_pos hw]
  obtain ⟨i, j1, j2, j3, j4⟩ := info5
  by_cases hz : sLen = 0
  · subst hz
    have hrun := run_copy_none (P := Try.prog) w 27 27 o.type 5 (some ⟨g, 0, none⟩) sp all.length cap 0 sCap Try.underlying27 (by rw [j1]; simp [j3]) (Nat.zero_min _)
    unfold Oper.wp
    simp [execOp, ho, resolve, invoke, builtin, hd, hs, hrun, Result.andThen]
    refine h _ ?_ (Fr.refl _ _)
    have e0 : all.drop x = [] := List.drop_eq_nil_of_le (by omega)
    obtain ⟨hl, ⟨e, _⟩ | ⟨g', cap', cur, e, hb, hg, hnc, hcm, hcs, htk⟩⟩ := own
    · cases e
    · cases e
      exact ⟨by rw [e0]; rfl, .inr ⟨g, cap, cur, rfl, hb, hg, by omega, hcm, hcs, by rw [e0]; simp [bcells]⟩⟩
  obtain rfl := had (by omega)
  obtain ⟨hl, ⟨e, _⟩ | ⟨g', cap', cur, e, hb, hg, hnc, hcm, hcs, htk⟩⟩ := own
  · cases e
  · cases e
    have hlen : (bcells (all.drop x)).length = sLen := by rw [bcells_len, List.length_drop]; omega
    have hcs' : cur.size = cap := by simpa using hcs
    have hrun := run_copy_row (P := Try.prog) w 27 27 o.type 5 g 0 all.length cap ⟨g, x, none⟩ sLen sCap cur 5 (bcells (all.drop x)) Try.underlying27 (by rw [j1]; simp [j3]) hg (by rw [hlen]; exact (Nat.min_eq_left (by omega : sLen ≤ all.length)).symm) ?_ (by rw [hlen]; omega) (bcells_one _)
    · unfold Oper.wp
      simp [execOp, ho, resolve, invoke, builtin, hd, hs, hrun, Result.andThen]
      simp only [hlen]
      refine h _ ?_ ?_
      · refine ⟨by rw [hlen]; omega, .inr ⟨g, cap, _, rfl, hb, setRow_heap w g _ _ 5 (0, 0) hg, by omega, hcm, ?_, ?_⟩⟩
        · simp [hlen]; omega
        · simp [hlen]
      · exact ⟨rfl, rfl, rfl, by simp [World.setRow], fun k _ hs => setRow_other w g k _ hs⟩
    · intro j u hv
      have hj : j < (all.drop x).length := by
        have := (List.getElem?_eq_some_iff.1 hv).1
        rwa [bcells_len] at this
      rw [bcells_get hj] at hv
      have hj2 : x + j < all.length := by rw [List.length_drop] at hj; omega
      have h1 := bcells_get hj2
      rw [Addr.add_mid, cell_of_row w g _ _ _ _ hg, ← hv, List.getElem_drop, ← h1, ← htk, List.getElem?_take, if_pos (by omega), Array.getElem?_toList]
theorem give_end {B : Nat} {w w2 w3 : World} {q p g0 k0 m : Nat} {all rest : List (BitVec 8)} {at_ : Int} (HF1 : Fr (fun x => x = q) w w2) (HR : Rdr B w2 q p (.slice (some ⟨g0, 0, none⟩) all.length k0) all m at_ 0)
    (ho3 : w3.ownsRow B 5 1 (.slice (some ⟨g0, 0, none⟩) m k0) m (bcells rest)) (hf3 : Fr (fun y => y = g0) w2.drew w3) (hlen : rest.length = m) :
    ∃ v', v'.ownBlock = some g0 ∧ Rdr B (w3.setCell ⟨q, 1, none⟩ (.slice (some ⟨g0, 0, none⟩) m k0)).drew q p v' rest m at_ 0 ∧ Fr (fun x => x = q ∨ x = g0) w (w3.setCell ⟨q, 1, none⟩ (.slice (some ⟨g0, 0, none⟩) m k0)).drew := by
  subst hlen
  have hne : ¬ q = g0 := fun e => by have := own_type HR.own rfl (by rw [← e]; exact HR.row); cases this
  have F3 : Fr (fun y => y = g0) w2 w3 := ⟨hf3.os, hf3.tape, hf3.output, hf3.size, hf3.block⟩
  have R3 := F3.row HR.row hne
  have S3 := HR.sc.fr F3 (fun j hj e => by
    rcases Nat.eq_zero_or_pos j with e0 | e0
    · subst e0
      have := own_type HR.own rfl (by rw [← e]; exact HR.sc.row)
      cases this
    · have := own_type HR.own rfl (by rw [← e]; exact HR.sc.tab j e0 hj)
      cases this)
  have F4 : Fr (fun x => x = q) w3 (w3.setCell ⟨q, 1, none⟩ (.slice (some ⟨g0, 0, none⟩) rest.length k0)).drew := (fr_set w3 q 1 _).drew1
  refine ⟨_, rfl, ⟨(R3.set 1 _).drew1, S3.fr F4 (fun j hj e => sc_type S3 hj (by rw [e]; exact R3) (by decide) (by decide)), F4.own ho3 (fun x hx e => ?_), Nat.le_refl _, HR.bq, HR.bp⟩, ((HF1.wider (T := fun x => x = q ∨ x = g0) (fun x e => .inl e)).trans F3 (fun x e => .inl (.inr e))).trans F4 (fun x e => .inl (.inl e))⟩
  have := own_type (all := rest) ho3 hx (by rw [e]; exact R3)
  cases this
/-- A frame's bytes are given, and what is left is moved to the front. -/
theorem give_yes {B : Nat} {w : World} {q p : Nat} {v : Value} {all : List (BitVec 8)} {left : Nat} {at_ : Int} (H : Rdr B w q p v all left at_ 0) {n : Nat} (hn : n ≤ left) (h0 : 0 < n) (hm : left - n ≤ all.length - (left - n)) (ha : 0 ≤ at_ ∧ at_ + n < 18446744073709551616) (hl : all.length ≤ 140737488355328) :
    Calls Try.prog 26 #[.pointer (some ⟨q, 0, none⟩), .int .i64 (n : Int)] w fun e w' => e = .returned (.tuple #[]) ∧ ∃ v', v'.ownBlock = v.ownBlock ∧ Rdr B w' q p v' (all.drop (all.length - (left - n))) (left - n) (at_ + n) 0 ∧ Fr (fun x => x = q ∨ v.ownBlock = some x) w w' := by
  have HH := hid H
  have HNL := hid hn
  have HLF := hid H.le
  have HL := hid hl
  obtain ⟨g0, k0, rfl, hk0⟩ : ∃ g0 k0, v = .slice (some ⟨g0, 0, none⟩) all.length k0 ∧ all.length ≤ k0 ∧ k0 ≤ maxLen := by
    rcases H.own.2 with ⟨_, e⟩ | ⟨g0, k0, cur, e, _, _, h1, h2, _⟩
    · have := H.le
      omega
    · exact ⟨g0, k0, e, h1, h2⟩
  have HK0 := hid hk0
  have c1 := H.row.cell 1 _ rfl
  have c2 := H.row.cell 2 _ rfl
  have c3 := H.row.cell 3 _ rfl
  have f2 := H.row.frozen 2
  have f3 := H.row.frozen 3
  have r1 : IntKind.u64.wrap (n : Int) = n := by have := H.le; rw [IntKind.wrap_u64]; omega
  have r2 : IntKind.u64.wrap (at_ + (n : Int)) = at_ + n := by rw [IntKind.wrap_u64]; omega
  have r3 : wrap64 ((left : Int) - (n : Int)) = ((left - n : Nat) : Int) := by have := H.le; unfold wrap64; omega
  have r4 : wrap64 ((all.length : Int) - ((left - n : Nat) : Int)) = ((all.length - (left - n) : Nat) : Int) := by have := H.le; unfold wrap64; omega
  obtain ⟨m, hmm⟩ : ∃ m, m = left - n := ⟨_, rfl⟩
  obtain ⟨g, hgg⟩ : ∃ g, g = all.length - (left - n) := ⟨_, rfl⟩
  have hgm : g + m = all.length := by have := H.le; omega
  have r5 : m ≤ g := by omega
  have r6 : (m : Int) ≤ (g : Int) := by omega
  rw [← hgg, ← hmm] at r4
  rw [← hmm] at r3
  rw [← hgg, ← hmm]
  have HMM := hid hmm
  have HGM := hid hgm
  have R5 := hid r5
  clear H hn hm ha hl hmm hgg hgm hk0
  go_enter Try.func26, Try.ntmps26
  go_wp2
  go_quiet (fail)
  obtain ⟨w2, hw2⟩ : ∃ w2, w2 = ((w.setCell ⟨q, 3, none⟩ (.int .u64 (at_ + n))).setCell ⟨q, 2, none⟩ (.int .i64 (m : Int))).drewN nq := ⟨_, rfl⟩
  have F1 : Fr (fun x => x = q) w w2 := by rw [hw2]; exact ((fr_set w q 3 _).trans (fr_set _ q 2 _) (fun x e => .inl e)).drewN nq
  have HR : Hid (Rdr B w2 q p (.slice (some ⟨g0, 0, none⟩) all.length k0) all m (at_ + n) 0) := ⟨by rw [hw2]; exact ((HH.out.row.set 3 _).set 2 _).drew nq, (HH.out.cells F1).1, (HH.out.cells F1).2, by have := HMM.out; have := HLF.out; omega, HH.out.bq, HH.out.bp⟩
  have HF1 := hid F1
  rw [← hw2]
  clear hw2 F1 c1 c2 c3 f2 f3
  have c1 := HR.out.row.cell 1 _ rfl
  have c2 := HR.out.row.cell 2 _ rfl
  have f1 := HR.out.row.frozen 1
  have b1 : g ≤ all.length := by have := HGM.out; omega
  have b2 : all.length ≤ k0 := HK0.out.1
  have b3 : g ≤ k0 := by omega
  have b4 : all.length - g = m := by have := HGM.out; omega
  have b5 : m ≤ k0 := by omega
  have hne : ¬ q = g0 := fun e => by have := own_type HR.out.own rfl (by rw [← e]; exact HR.out.row); cases this
  have HNE := hid hne
  clear hne
  go_wp2
  rw [r4]
  go_region_law (refine step_move rfl (.tmp 41) (.tmp 47) rfl HR.out.own rfl rfl (x := g) (by intro hp; have := HGM.out; have := HK0.out.1; rw [if_neg (by omega)]) (by have := HGM.out; omega) ?_; intro w3 ho3 hf3)
  all_goals
    have HW3 := hid (hf3.out.row (HR.out.row.drew1) HNE.out)
    clear c1 c2 f1
    have c1 := HW3.out.cell 1 _ rfl
    have c2 := HW3.out.cell 2 _ rfl
    have f1 := HW3.out.frozen 1
    have HE := hid (give_end HF1.out HR.out ho3.out hf3.out (by rw [List.length_drop]; have := HGM.out; omega))
    generalize (if k0 = g then some (⟨g0, 0, none⟩ : Addr) else some ⟨g0, g, none⟩) = z47
    go_wp2
    go_region
    all_goals
      go_wp2
      refine bodyPost_end (results_none Try.results26 _ _ _) rfl ?_
      obtain ⟨v', e1, e2, e3⟩ := HE.out
      exact ⟨rfl, v', e1, e2, e3.wider (fun x hx => hx.imp id (fun e => by rw [e]; rfl))⟩
end Go.Proofs.Ytkhogbnoincbeab
