import Derived.Test.YtimiokbnhneggaaRd0
namespace Go.Proofs.Ytimiokbnhneggaa
open Go.RowKit Go.Maps Go.Sort
set_option maxRecDepth 100000

set_option maxHeartbeats 1000000 in
theorem bv_below_any {w : World} {p : Nat} {v : Value} {R : List Value} {L : List Rg} (S : BvAt w p v R L) (F : Fit L) (hf : L.length ≤ 1000) (x : Int) (h1 : x ≤ 18446744073709551615) :
    Calls Try.prog 31 #[.pointer (some ⟨p, 0, none⟩), .int .u64 x] w fun e w' => e = .returned (.int .u64 (total (clipL L (0, x)))) ∧ ∃ v', BvAt w' p v' R (remL L (0, x)) ∧ Turned w w' p v v' := by
  have hR := bv_rem_any S F (by omega) (0, x) (by simp) h1
  simp only at hR
  clear S
  go_enter Try.func31, Try.ntmps31
  go_wp2_with (go_at_call 51; refine hR.mono ?_; rintro e w1 ⟨rfl, v1, hS1, hT1⟩; have HX := hid (And.intro hS1 hT1); clear hS1 hT1 hR)
  go_ret
  exact ⟨rfl, v1, HX.out.1, HX.out.2⟩
/-- The state behind Read. -/
theorem read_done {w w1 w2 w3 w4 : World} {p b n : Nat} {v v' : Value} {D D' : DM} {F : Bf} {f : Int → BitVec 8} {k : Int} (H : BufAt w p v b n D F f) (hk : 0 ≤ k) (hm : F.read + F.room ≤ F.base + 2305843009213693952)
    (f1 : Fr (fun k => k = p) w w1) (b2 : Below w1.heap.size w1 w2) (S3 : BvAt w3 p v' (Bf.cells b { F with read := F.read + F.cnt k }) (remL F.L (0, F.read + F.cnt k))) (T3 : Turned w2 w3 p v v') (L4 : LessAt w3 w4 b n D D' (F.read / 1024) ((F.read + F.cnt k) / 1024))
    {bs : List (BitVec 8)} (hrow : Row w2 w1.heap.size (bcells bs) 5) :
    BufAt w4 p v' b n D' (F.readOn k) f ∧ Fr (Foot p v b D) w w4 ∧ (∀ k, Foot p v' b D' k → Foot p v b D k ∨ w.heap.size ≤ k) ∧ Row w4 w1.heap.size (bcells bs) 5 ∧ ¬ Foot p v' b D' w1.heap.size := by
  have hok := readOn_ok H.r.ok hk hm
  obtain ⟨c1, c2⟩ := cnt_le H.r.ok hk
  have hpb : ¬ SB b D p := H.sto.not_of_cells H.r.set.hp (by decide)
  have hrb : ∀ g, v.ownBlock = some g → ¬ SB b D g := fun g hg => by
    rcases H.r.set.own.2 with ⟨rfl, _⟩ | ⟨g', c, cur, rfl, _, hgg, _⟩
    · simp [Value.ownBlock] at hg
    · simp only [Value.ownBlock, Option.some.injEq] at hg
      subst hg
      exact H.sto.not_of_cells hgg (by decide)
  have f2 : Fr (fun k => k = p) w w2 := f1.trans (T := fun _ => False) (Fr.of_below b2 (Nat.le_refl _)) (fun _ e => e.elim)
  have hTF : Fr (fun k => k = p ∨ v.ownBlock = some k) w2 w3 := ⟨T3.os, T3.tape, T3.output, T3.size, fun k hk hn => T3.block k hk (fun e => hn (.inl e)) (fun e => hn (.inr e.symm))⟩
  have f3 : Fr (fun k => k = p ∨ v.ownBlock = some k) w w3 := (f2.wider (fun _ e => .inl e)).trans hTF (fun _ e => .inl e)
  have hS3 : ∀ k, SB b D k → ¬ (k = p ∨ v.ownBlock = some k) := by
    rintro j hj (e | e)
    · subst e; exact hpb hj
    · exact hrb j e hj
  have s3 : Sto w3 b n D := H.sto.kept f3 hS3
  have hgl : w.heap.size ≤ w1.heap.size := f1.size
  have hvl : ∀ g, v.ownBlock = some g → g < w.heap.size := fun g hg => by
    rcases H.r.set.own.2 with ⟨rfl, _⟩ | ⟨g', c, cur, rfl, _, hgg, _⟩
    · simp [Value.ownBlock] at hg
    · simp only [Value.ownBlock, Option.some.injEq] at hg
      subst hg
      exact (Array.getElem?_eq_some_iff.1 hgg).1
  have hpl : p < w.heap.size := H.r.row.lt
  have hmem := rem_below H.r.ok (x := F.read + F.cnt k)
  have r3 : Row w3 w1.heap.size (bcells bs) 5 := hTF.row hrow (by rintro (e | e); omega; have := hvl _ e; omega)
  have hne3 : ∀ g, v'.ownBlock = some g → ∃ c, w3.heap[g]? = some (.cells c 50 (0, 0)) := fun g hg => by
    rcases S3.own.2 with ⟨rfl, _⟩ | ⟨g', c, cur, rfl, _, hgg, _⟩
    · simp [Value.ownBlock] at hg
    · simp only [Value.ownBlock, Option.some.injEq] at hg
      subst hg
      exact ⟨_, hgg⟩
  have hb3 : ∀ j c t q, w3.heap[j]? = some (.cells c t q) → j ≠ b := fun j c t q hj e => by
    obtain ⟨es, clock, hb, _⟩ := s3.own
    rw [e, hb] at hj
    cases hj
  refine ⟨⟨⟨⟨?_, S3.own.1, ?_⟩, hok⟩, L4.sto, fun y hy => ?_, ?_⟩, ?_, ?_, ?_, ?_⟩
  · rw [L4.fr.block p (Array.getElem?_eq_some_iff.1 S3.hp).1 (hb3 _ _ _ _ S3.hp)]
    exact S3.hp
  · rcases S3.own.2 with e | ⟨g, c, cur, hv, h1, hgg, h2⟩
    · exact .inl e
    · exact .inr ⟨g, c, cur, hv, h1, (L4.fr.block g (Array.getElem?_eq_some_iff.1 hgg).1 (hb3 _ _ _ _ hgg)).trans hgg, h2⟩
  · have hy' := (hmem y).1 hy
    exact L4.at_ s3 ((H.byt y hy'.1).kept f3 hS3) (by omega)
  · have hfit := hok.fit
    have h2 := H.few
    have hr0 := H.r.ok.rd
    have hb0 := H.r.ok.b0
    have hrm := H.r.ok.rm
    have hge := gap_edge H.r.ok
    have hr1 := H.r.ok.r1
    have ht := total_sum (A := F.L) (B := []) (C := remL F.L (0, F.read + F.cnt k)) (D := [(F.read, F.read + (F.cnt k : Int))]) H.r.ok.fit.rise rise_nil (Fit.rise hfit) (rise_one ⟨by simp only; omega, by simp only; omega, by simp only; omega⟩) (fun y => by
      have e0 : ind [] y = 0 := ind_no (by simp [mem])
      rw [e0]
      by_cases hy : mem F.L y
      · by_cases hx : F.read + F.cnt k ≤ y
        · rw [ind_yes hy, ind_yes ((hmem y).2 ⟨hy, hx⟩), ind_no (fun e => by rw [cmem_one] at e; simp only at e; omega)]
        · obtain ⟨t, ht, a1, a2⟩ := hy
          have := H.r.ok.inn t ht
          rw [ind_yes ⟨t, ht, a1, a2⟩, ind_no (fun e => hx ((hmem y).1 e).2), ind_yes (cmem_one.2 (by simp only; omega))]
          rfl
      · rw [ind_no hy, ind_no (fun e => hy ((hmem y).1 e).1), ind_no (fun e => by
          rw [cmem_one] at e
          simp only at e
          exact hy (gap_all H.r.ok.fit F.read y (by omega) (by unfold Bf.gap at *; omega)))])
    simp only [total] at ht
    show (n : Int) ≤ F.read + F.cnt k - F.base + total (remL F.L (0, F.read + F.cnt k))
    omega
  · exact (f3.wider (T := Foot p v b D) (fun k e => by rcases e with e | e; exact .inl e; exact .inr (.inl e))).trans L4.fr (fun x e => .inl (.inr (.inr (.inl e))))
  · intro j hj
    rcases hj with e | e | e
    · exact .inl (.inl e)
    · rcases T3.row with t | ⟨g, t, hg⟩
      · rw [t] at e; exact .inl (.inr (.inl e))
      · rw [t] at e
        simp only [Option.some.injEq] at e
        subst e
        exact .inr (Nat.le_trans f2.size hg)
    · exact .inl (.inr (.inr (L4.sub j e)))
  · exact L4.fr.row r3 (hb3 _ _ _ _ r3.at_)
  · rintro (e | e | e)
    · omega
    · obtain ⟨c, hc⟩ := hne3 _ e
      rw [r3.at_] at hc
      injection hc with hc
      injection hc with _ hc
      cases hc
    · have := H.sto.lt (L4.sub _ e)
      omega
end Go.Proofs.Ytimiokbnhneggaa
