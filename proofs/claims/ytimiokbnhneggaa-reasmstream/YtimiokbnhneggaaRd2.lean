import Derived.Test.YtimiokbnhneggaaTk1
namespace Go.Proofs.Ytimiokbnhneggaa
open Go.RowKit Go.Maps Go.Sort
set_option maxRecDepth 100000

/-- How many bytes a Read of n answers. -/
def Bf.cnt (F : Bf) (n : Int) : Nat := (min n (F.gap - F.read)).toNat
def Bf.readOn (F : Bf) (n : Int) : Bf := { F with read := F.read + F.cnt n, L := remL F.L (0, F.read + F.cnt n) }
/-- The bytes from an offset on. -/
def bytesFrom (f : Int → BitVec 8) (x : Int) (k : Nat) : List (BitVec 8) := (List.range k).map fun (i : Nat) => f (x + (i : Int))
theorem bytesFrom_len (f : Int → BitVec 8) (x : Int) (k : Nat) : (bytesFrom f x k).length = k := by simp [bytesFrom]
theorem bytesFrom_get (f : Int → BitVec 8) (x : Int) (k i : Nat) (h : i < (bytesFrom f x k).length) : (bytesFrom f x k)[i] = f (x + i) := by simp [bytesFrom]
theorem gap_edge {F : Bf} (k : F.Ok) : F.read ≤ F.gap ∧ F.gap ≤ F.read + F.room ∧ (F.ends = true → F.gap ≤ F.fin) := by
  have h1 := gap_ge k.fit F.read
  have h2 := k.r0
  by_cases hg : F.gap = F.read
  · exact ⟨h1, by omega, fun e => by have := (k.fin3 e).1; omega⟩
  · obtain ⟨hl, f1, f2⟩ := first_at k hg
    have h3 := k.inn F.L[0] (List.getElem_mem hl)
    exact ⟨h1, by omega, fun e => by have := (k.fin3 e).2 F.L[0] (List.getElem_mem hl); omega⟩
theorem cnt_le {F : Bf} (k : F.Ok) {n : Int} (hn : 0 ≤ n) : (F.cnt n : Int) = min n (F.gap - F.read) ∧ F.read + F.cnt n ≤ F.gap := by
  have := gap_edge k
  unfold Bf.cnt
  omega
/-- What is left when all below x is gone. -/
theorem rem_below {F : Bf} (k : F.Ok) {x : Int} (y : Int) : mem (remL F.L (0, x)) y ↔ mem F.L y ∧ x ≤ y := by
  rw [remL_mem k.fit]
  constructor
  · rintro ⟨h1, h2⟩
    have := mem_le k.fit h1
    simp only at h2
    exact ⟨h1, by omega⟩
  · rintro ⟨h1, h2⟩
    exact ⟨h1, by simp only; omega⟩
theorem readOn_ok {F : Bf} (k : F.Ok) {n : Int} (hn : 0 ≤ n) (hm : F.read + F.room ≤ F.base + 2305843009213693952) : (F.readOn n).Ok := by
  obtain ⟨c1, c2⟩ := cnt_le k hn
  obtain ⟨g1, g2, g3⟩ := gap_edge k
  have hb := k.b0
  have hb1 := k.b1
  have hrd := k.rd
  have hfit := remL_fit k.fit (0, F.read + F.cnt n) (by simp) (by simp only; omega)
  have hmem := rem_below k (x := F.read + F.cnt n)
  have hgap : gapOf (remL F.L (0, F.read + F.cnt n)) (F.read + F.cnt n) = F.gap := by
    refine gap_unique hfit _ _ c2 (fun z h1 h2 => ?_) (fun e => ?_)
    · exact (hmem z).2 ⟨gap_all k.fit F.read z (by omega) h2, h1⟩
    · exact gap_not k.fit F.read ((hmem _).1 e).1
  have hin : ∀ r ∈ remL F.L (0, F.read + F.cnt n), F.read + F.cnt n ≤ r.1 ∧ r.2 ≤ F.read + F.room ∧ (F.ends = true → r.2 ≤ F.fin) := fun r hr => by
    have h1 := hfit.1 r hr
    have m1 := (hmem r.1).1 ⟨r, hr, Int.le_refl _, h1.2.1⟩
    have m2 := (hmem (r.2 - 1)).1 ⟨r, hr, by omega, by omega⟩
    obtain ⟨t, ht, a1, a2⟩ := m2.1
    have := k.inn t ht
    refine ⟨m1.2, by omega, fun e => ?_⟩
    have := (k.fin3 e).2 t ht
    omega
  refine ⟨hfit, k.b0, k.b1, k.r0, k.r1, k.g0, k.g1, ?_, ?_, ?_, fun r hr => ?_, ?_, k.fin0, ?_, k.fin2, fun e => ⟨?_, fun r hr => (hin r hr).2.2 e⟩⟩
  · show F.base ≤ F.read + F.cnt n; omega
  · show F.read + F.cnt n ≤ 9223372036854775807; omega
  · show F.read + F.cnt n ≤ F.base + 2305843009213693952; omega
  · have := hin r hr
    show F.read + F.cnt n ≤ r.1 ∧ r.2 ≤ F.read + F.cnt n + F.room
    omega
  · show ((remL F.L (0, F.read + F.cnt n)).length : Int) - (if gapOf (remL F.L (0, F.read + F.cnt n)) (F.read + F.cnt n) ≠ F.read + F.cnt n then 1 else 0) ≤ F.gaps
    rw [hgap]
    have hfew := k.few
    unfold Bf.apart at hfew
    by_cases hg : F.gap = F.read
    · have e0 : remL F.L (0, F.read + F.cnt n) = F.L := fit_ext _ _ hfit k.fit (fun y => by
        rw [hmem]
        constructor
        · exact fun h => h.1
        · intro h
          obtain ⟨t, ht, a1, a2⟩ := h
          have := k.inn t ht
          exact ⟨⟨t, ht, a1, a2⟩, by omega⟩)
      rw [e0]
      rw [if_neg (by simp [hg])] at hfew
      rw [if_neg (by simp; omega)]
      exact hfew
    · rw [if_pos hg] at hfew
      obtain ⟨hl, f1, f2⟩ := first_at k hg
      cases hL : F.L with
      | nil => rw [hL] at hl; simp at hl
      | cons r0 l =>
        simp only [hL, List.getElem_cons_zero] at f1 f2
        have hk := k.fit
        rw [hL] at hk
        have hl2 : Fit l := ⟨fun r hr => hk.1 r (by simp [hr]), (List.pairwise_cons.1 hk.2).2⟩
        have hpl := (List.pairwise_cons.1 hk.2).1
        rw [hL, List.length_cons] at hfew
        have hsplit : ∀ y, mem F.L y ↔ (F.read ≤ y ∧ y < F.gap) ∨ mem l y := fun y => by
          rw [hL]
          unfold mem
          simp only [List.mem_cons, exists_eq_or_imp, f1, f2]
        have hgt : ∀ y, mem l y → F.gap < y := fun y hy => by
          obtain ⟨t, ht, a1, a2⟩ := hy
          have := hpl t ht
          omega
        by_cases hx : F.read + F.cnt n = F.gap
        · have e0 : remL F.L (0, F.read + F.cnt n) = l := fit_ext _ _ hfit hl2 (fun y => by
            rw [hmem, hsplit]
            constructor
            · rintro ⟨h | h, h'⟩
              · omega
              · exact h
            · intro h
              exact ⟨.inr h, by have := hgt y h; omega⟩)
          rw [← hL, e0, if_neg (by simp; omega)]
          omega
        · have hfc : Fit ((F.read + F.cnt n, F.gap) :: l) := by
            have h1 := hk.1 r0 (by simp)
            refine ⟨fun r hr => ?_, List.pairwise_cons.2 ⟨fun t ht => ?_, hl2.2⟩⟩
            · rcases List.mem_cons.1 hr with rfl | hr
              · simp only; omega
              · exact hl2.1 r hr
            · have := hpl t ht
              simp only
              omega
          have e0 : remL F.L (0, F.read + F.cnt n) = (F.read + F.cnt n, F.gap) :: l := fit_ext _ _ hfit hfc (fun y => by
            rw [hmem, hsplit]
            unfold mem
            simp only [List.mem_cons, exists_eq_or_imp]
            constructor
            · rintro ⟨h | h, h'⟩
              · exact .inl ⟨by omega, by omega⟩
              · exact .inr h
            · rintro (h | h)
              · exact ⟨.inl ⟨by omega, by omega⟩, by omega⟩
              · exact ⟨.inr h, by have := hgt y h; omega⟩)
          rw [← hL, e0, if_pos (by omega), List.length_cons]
          omega
  · show F.fin ≤ F.read + F.cnt n + F.room
    have := k.fin1
    omega
  · show F.read + F.cnt n ≤ F.fin
    have := g3 e
    omega
end Go.Proofs.Ytimiokbnhneggaa
namespace Go.Proofs.Ytimiokbnhneggaa
open Go.RowKit Go.Maps Go.Sort
set_option maxRecDepth 100000

set_option maxHeartbeats 1000000 in
theorem bv_below_any {w : World} {p : Nat} {v : Value} {R : List Value} {L : List Rg} (S : BvAt w p v R L) (F : Fit L) (hf : L.length ≤ 1000) (x : Int) (h1 : x ≤ 18446744073709551615) :
    Calls Try.prog 31 #[.pointer (some ⟨p, 0, none⟩), .int .u64 x] w fun e w' => e = .returned (.int .u64 (total (clipL L (0, x)))) ∧ ∃ v', BvAt w' p v' R (remL L (0, x)) ∧ Turned w w' p v v' := by
  have hR := bv_rem_any S F (by omega) (0, x) (by simp) h1
  simp only at hR
  clear S
  go_enter Try.func31, Try.ntmps31
  go_wp2_with (go_at_call 51; refine hR.mono ?_; rintro e w1 ⟨rfl, v1, hS1, hT1⟩; have HX := hid (And.intro hS1 hT1); clear hS1 hT1 hR)
  go_ret
  exact ⟨rfl, v1, HX.out.1, HX.out.2⟩
/-- The state behind Read. -/
theorem read_done {w w1 w2 w3 w4 : World} {p b n : Nat} {v v' : Value} {D D' : DM} {F : Bf} {f : Int → BitVec 8} {k : Int} (H : BufAt w p v b n D F f) (hk : 0 ≤ k) (hm : F.read + F.room ≤ F.base + 2305843009213693952)
    (f1 : Fr (fun k => k = p) w w1) (b2 : Below w1.heap.size w1 w2) (S3 : BvAt w3 p v' (Bf.cells b { F with read := F.read + F.cnt k }) (remL F.L (0, F.read + F.cnt k))) (T3 : Turned w2 w3 p v v') (L4 : LessAt w3 w4 b n D D' (F.read / 1024) ((F.read + F.cnt k) / 1024))
    {bs : List (BitVec 8)} (hrow : Row w2 w1.heap.size (bcells bs) 5) :
    BufAt w4 p v' b n D' (F.readOn k) f ∧ Fr (Foot p v b D) w w4 ∧ (∀ k, Foot p v' b D' k → Foot p v b D k ∨ w.heap.size ≤ k) ∧ Row w4 w1.heap.size (bcells bs) 5 ∧ ¬ Foot p v' b D' w1.heap.size := by
  have hok := readOn_ok H.r.ok hk hm
  obtain ⟨c1, c2⟩ := cnt_le H.r.ok hk
  have hpb : ¬ SB b D p := H.sto.not_of_cells H.r.set.hp (by decide)
  have hrb : ∀ g, v.ownBlock = some g → ¬ SB b D g := fun g hg => by
    rcases H.r.set.own.2 with ⟨rfl, _⟩ | ⟨g', c, cur, rfl, _, hgg, _⟩
    · simp [Value.ownBlock] at hg
    · simp only [Value.ownBlock, Option.some.injEq] at hg
      subst hg
      exact H.sto.not_of_cells hgg (by decide)
  have f2 : Fr (fun k => k = p) w w2 := f1.trans (T := fun _ => False) (Fr.of_below b2 (Nat.le_refl _)) (fun _ e => e.elim)
  have hTF : Fr (fun k => k = p ∨ v.ownBlock = some k) w2 w3 := ⟨T3.os, T3.tape, T3.output, T3.size, fun k hk hn => T3.block k hk (fun e => hn (.inl e)) (fun e => hn (.inr e.symm))⟩
  have f3 : Fr (fun k => k = p ∨ v.ownBlock = some k) w w3 := (f2.wider (fun _ e => .inl e)).trans hTF (fun _ e => .inl e)
  have hS3 : ∀ k, SB b D k → ¬ (k = p ∨ v.ownBlock = some k) := by
    rintro j hj (e | e)
    · subst e; exact hpb hj
    · exact hrb j e hj
  have s3 : Sto w3 b n D := H.sto.kept f3 hS3
  have hgl : w.heap.size ≤ w1.heap.size := f1.size
  have hvl : ∀ g, v.ownBlock = some g → g < w.heap.size := fun g hg => by
    rcases H.r.set.own.2 with ⟨rfl, _⟩ | ⟨g', c, cur, rfl, _, hgg, _⟩
    · simp [Value.ownBlock] at hg
    · simp only [Value.ownBlock, Option.some.injEq] at hg
      subst hg
      exact (Array.getElem?_eq_some_iff.1 hgg).1
  have hpl : p < w.heap.size := H.r.row.lt
  have hmem := rem_below H.r.ok (x := F.read + F.cnt k)
  have r3 : Row w3 w1.heap.size (bcells bs) 5 := hTF.row hrow (by rintro (e | e); omega; have := hvl _ e; omega)
  have hne3 : ∀ g, v'.ownBlock = some g → ∃ c, w3.heap[g]? = some (.cells c 50 (0, 0)) := fun g hg => by
    rcases S3.own.2 with ⟨rfl, _⟩ | ⟨g', c, cur, rfl, _, hgg, _⟩
    · simp [Value.ownBlock] at hg
    · simp only [Value.ownBlock, Option.some.injEq] at hg
      subst hg
      exact ⟨_, hgg⟩
  have hb3 : ∀ j c t q, w3.heap[j]? = some (.cells c t q) → j ≠ b := fun j c t q hj e => by
    obtain ⟨es, clock, hb, _⟩ := s3.own
    rw [e, hb] at hj
    cases hj
  refine ⟨⟨⟨⟨?_, S3.own.1, ?_⟩, hok⟩, L4.sto, fun y hy => ?_, ?_⟩, ?_, ?_, ?_, ?_⟩
  · rw [L4.fr.block p (Array.getElem?_eq_some_iff.1 S3.hp).1 (hb3 _ _ _ _ S3.hp)]
    exact S3.hp
  · rcases S3.own.2 with e | ⟨g, c, cur, hv, h1, hgg, h2⟩
    · exact .inl e
    · exact .inr ⟨g, c, cur, hv, h1, (L4.fr.block g (Array.getElem?_eq_some_iff.1 hgg).1 (hb3 _ _ _ _ hgg)).trans hgg, h2⟩
  · have hy' := (hmem y).1 hy
    exact L4.at_ s3 ((H.byt y hy'.1).kept f3 hS3) (by omega)
  · have hfit := hok.fit
    have h2 := H.few
    have hr0 := H.r.ok.rd
    have hb0 := H.r.ok.b0
    have hrm := H.r.ok.rm
    have hge := gap_edge H.r.ok
    have hr1 := H.r.ok.r1
    have ht := total_sum (A := F.L) (B := []) (C := remL F.L (0, F.read + F.cnt k)) (D := [(F.read, F.read + (F.cnt k : Int))]) H.r.ok.fit.rise rise_nil (Fit.rise hfit) (rise_one ⟨by simp only; omega, by simp only; omega, by simp only; omega⟩) (fun y => by
      have e0 : ind [] y = 0 := ind_no (by simp [mem])
      rw [e0]
      by_cases hy : mem F.L y
      · by_cases hx : F.read + F.cnt k ≤ y
        · rw [ind_yes hy, ind_yes ((hmem y).2 ⟨hy, hx⟩), ind_no (fun e => by rw [cmem_one] at e; simp only at e; omega)]
        · obtain ⟨t, ht, a1, a2⟩ := hy
          have := H.r.ok.inn t ht
          rw [ind_yes ⟨t, ht, a1, a2⟩, ind_no (fun e => hx ((hmem y).1 e).2), ind_yes (cmem_one.2 (by simp only; omega))]
          rfl
      · rw [ind_no hy, ind_no (fun e => hy ((hmem y).1 e).1), ind_no (fun e => by
          rw [cmem_one] at e
          simp only at e
          exact hy (gap_all H.r.ok.fit F.read y (by omega) (by unfold Bf.gap at *; omega)))])
    simp only [total] at ht
    show (n : Int) ≤ F.read + F.cnt k - F.base + total (remL F.L (0, F.read + F.cnt k))
    omega
  · exact (f3.wider (T := Foot p v b D) (fun k e => by rcases e with e | e; exact .inl e; exact .inr (.inl e))).trans L4.fr (fun x e => .inl (.inr (.inr (.inl e))))
  · intro j hj
    rcases hj with e | e | e
    · exact .inl (.inl e)
    · rcases T3.row with t | ⟨g, t, hg⟩
      · rw [t] at e; exact .inl (.inr (.inl e))
      · rw [t] at e
        simp only [Option.some.injEq] at e
        subst e
        exact .inr (Nat.le_trans f2.size hg)
    · exact .inl (.inr (.inr (L4.sub j e)))
  · exact L4.fr.row r3 (hb3 _ _ _ _ r3.at_)
  · rintro (e | e | e)
    · omega
    · obtain ⟨c, hc⟩ := hne3 _ e
      rw [r3.at_] at hc
      injection hc with hc
      injection hc with _ hc
      cases hc
    · have := H.sto.lt (L4.sub _ e)
      omega
end Go.Proofs.Ytimiokbnhneggaa
namespace Go.Proofs.Ytimiokbnhneggaa
open Go.RowKit Go.Maps Go.Sort
set_option maxRecDepth 100000

set_option maxHeartbeats 1000000 in
theorem read_neg {w : World} {p b : Nat} {v : Value} {F : Bf} (h : BufR w p v b F) (n : Int) (hn : n < 0) :
    Calls Try.prog 12 #[.pointer (some ⟨p, 0, none⟩), .int .i64 n] w fun e w' => e = .returned (.tuple #[.slice none 0 0, .bool false, .int .i64 85]) ∧ w' = w := by
  have hN := none_no h
  clear h
  go_enter Try.func12, Try.ntmps12
  go_wp2_with (go_at_call 27; refine hN.mono ?_; rintro e w1 ⟨rfl, rfl⟩)
  refine bodyPost_ret (results_tmp3 Try.results12 _ _ _) rfl ?_
  exact ⟨rfl, rfl⟩
set_option maxHeartbeats 2000000 in
theorem read_nil {w : World} {p b : Nat} {v : Value} {F : Bf} (h : BufR w p v b F) (n : Int) (hn : 0 ≤ n) (hg : F.gap = F.read) :
    Calls Try.prog 12 #[.pointer (some ⟨p, 0, none⟩), .int .i64 n] w fun e w' => e = .returned (.tuple #[.slice none 0 0, .bool F.done, .int .i64 0]) ∧ Below w.heap.size w w' := by
  have hN := none_no h
  have H := hid h
  have K1 := hid h.gapK
  have v5 := cell_regrown (h.row.cell 5 _ rfl)
  rw [hg] at K1
  clear h
  have hnn : ¬ n < 0 := by omega
  go_enter Try.func12, Try.ntmps12
  go_upto_region 5 with (go_at_call 27; refine hN.mono ?_; rintro e w1 ⟨rfl, rfl⟩)
  refine wp_region_quiet_below (by kernel_rfl) (by decide +kernel) ?_
  repeat (quiet_step (first | (go_at_call 28; exact K1.out _ _)))
  refine wpQuiet_nil ?_
  intro w2 hw'
  have hb2 : Below w1.heap.size w1 w2 := by obtain ⟨⟨dq, osq⟩, rfl⟩ := hw'; exact below_regrown w1 dq osq
  have HD := hid (done_any (H.out.kept hb2))
  have HB2 := hid hb2
  clear hw' K1 v5 hb2 hN
  go_wp2_with (go_at_call 29; refine HD.out.mono ?_; rintro e w3 ⟨rfl, hb3⟩; have HB3 := hid hb3; clear hb3)
  refine bodyPost_ret (results_tmp3 Try.results12 _ _ _) rfl ?_
  exact ⟨rfl, HB2.out.trans (HB3.out.mono HB2.out.size)⟩
set_option maxHeartbeats 2000000 in
theorem read_some {w : World} {p b n : Nat} {v : Value} {D : DM} {F : Bf} {f : Int → BitVec 8} (H : BufAt w p v b n D F f) (k : Int) (hk : 0 ≤ k) (hk1 : k ≤ 9223372036854775807) (hm : F.read + F.room ≤ F.base + 2305843009213693952) (hg : F.gap ≠ F.read) (c : Nat) (hc : F.cnt k = c) :
    Calls Try.prog 12 #[.pointer (some ⟨p, 0, none⟩), .int .i64 k] w fun e w' => ∃ go, e = .returned (.tuple #[.slice (some ⟨go, 0, none⟩) c c, .bool false, .int .i64 0]) ∧ w.heap.size ≤ go ∧
      ∃ v' D', BufAt w' p v' b n D' (F.readOn k) f ∧ Fr (Foot p v b D) w w' ∧ (∀ j, Foot p v' b D' j → Foot p v b D j ∨ w.heap.size ≤ j) ∧ Row w' go (bcells (bytesFrom f F.read c)) 5 ∧ ¬ Foot p v' b D' go := by
  have hN := none_no H.r
  have H0 := hid H
  have K1 := hid H.r.gapK
  have v5 := cell_regrown (H.r.row.cell 5 _ rfl)
  obtain ⟨c1, c2⟩ := cnt_le H.r.ok hk
  obtain ⟨g1, g2, g3⟩ := gap_edge H.r.ok
  have hrd := H.r.ok.rd
  have hb0 := H.r.ok.b0
  have hb1 := H.r.ok.b1
  have hr1 := H.r.ok.r1
  rw [hc] at c1 c2
  have HC := hid hc
  clear H hc
  obtain ⟨rd, hrde⟩ : ∃ rd, F.read = rd := ⟨_, rfl⟩
  obtain ⟨gp, hgpe⟩ : ∃ gp, F.gap = gp := ⟨_, rfl⟩
  have HRD := hid hrde
  have HGP := hid hgpe
  rw [hrde] at hg c1 c2 g1 g2 hrd v5 K1 hm
  rw [hgpe] at hg c1 c2 g1 g2 K1
  clear hrde hgpe g3
  have hrd0 : 0 ≤ rd := by omega
  have hrdm : rd ≤ 9223372036854775807 := by omega
  have hnn : ¬ k < 0 := by omega
  have hgb : (rd == gp) = false := by simp; omega
  have hwk : IntKind.u64.wrap k = k := by rw [IntKind.wrap_u64]; omega
  have hws : IntKind.u64.wrap (gp - rd) = gp - rd := by rw [IntKind.wrap_u64]; omega
  have hwa : IntKind.u64.wrap (rd + min k (gp - rd)) = rd + c := by rw [IntKind.wrap_u64]; omega
  have HC1 := hid (And.intro c1 c2)
  have z0 : rd + (c : Int) ≤ 9223372038000000000 := by omega
  clear c1 c2 hwa
  go_enter Try.func12, Try.ntmps12
  go_upto_region 5 with (go_at_call 27; refine hN.mono ?_; rintro e w1 ⟨rfl, rfl⟩)
  refine wp_region_quiet_below (by kernel_rfl) (by decide +kernel) ?_
  repeat (quiet_step (first | (go_at_call 28; exact K1.out _ _)))
  refine wpQuiet_nil ?_
  intro w2 hw'
  have hb2 : Below w1.heap.size w1 w2 := by obtain ⟨⟨dq, osq⟩, rfl⟩ := hw'; exact below_regrown w1 dq osq
  have HR2 := hid (H0.out.r.kept hb2)
  have c5 := HR2.out.row.cell 5 _ rfl
  rw [HRD.out] at c5
  have f5 := HR2.out.row.frozen 5
  have HB2 := hid hb2
  clear hw' K1 v5 hb2 hN
  go_upto_region 9 with fail
  rw [show min k (gp - rd) = (c : Int) from HC1.out.1.symm]
  clear hws hwk
  refine wp_world fun w3 HW => ?_
  have HF3 : Hid (Fr (fun j => j = p) w1 w3) := by
    show Fr _ _ _
    rw [HW.out]
    exact (Fr.of_below (S := fun j => j = p) HB2.out (Nat.le_refl _)).trans (T := fun j => j = p) ⟨rfl, rfl, rfl, by simp [World.setCell], fun j _ hj => Below.heap_setCell _ _ _ _ hj⟩ (fun _ e => .inl e)
  have HS3 : Hid (BvAt w3 p v (Bf.cells b { F with read := F.read + F.cnt k }) F.L) := by
    show BvAt _ _ _ _ _
    rw [HW.out, HRD.out, HC.out]
    have r2 := HR2.out.row.set 5 (.int .u64 (rd + c))
    refine ⟨r2.at_, HR2.out.set.own.1, ?_⟩
    rcases HR2.out.set.own.2 with e | ⟨g, cp, cur, hv, h1, hgg, h2⟩
    · exact .inl e
    · have hne : g ≠ p := fun e => HR2.out.set.apart (by rw [hv, e]; rfl)
      exact .inr ⟨g, cp, cur, hv, h1, by rw [Below.heap_setCell _ _ _ _ hne]; exact hgg, h2⟩
  clear HW HR2 HB2 c5 f5
  have HS3q : Hid (BvAt { w3 with drawn := w3.drawn + 1 } p v (Bf.cells b { F with read := F.read + F.cnt k }) F.L) := HS3.out.kept ⟨rfl, rfl, rfl, Nat.le_refl _, fun _ _ => rfl⟩
  have HF3q : Hid (Fr (fun j => j = p) w1 { w3 with drawn := w3.drawn + 1 }) := ⟨HF3.out.os, HF3.out.tape, HF3.out.output, HF3.out.size, HF3.out.block⟩
  clear HS3 HF3
  refine wp_region_still_tail 9 (by kernel_rfl) (by decide +kernel) ?_
  generalize ({ w3 with drawn := w3.drawn + 1 } : World) = wq at *
  have HRW : Hid (Row wq p (v :: Bf.cells b { F with read := F.read + F.cnt k }) 57) := ⟨HS3q.out.hp⟩
  have q1 := HRW.out.cell 1 _ rfl
  have q5 := HRW.out.cell 5 _ rfl
  simp only [HRD.out, HC.out] at q5
  have hpb : ¬ SB b D p := H0.out.sto.not_of_cells H0.out.r.set.hp (by decide)
  have HSQ := hid (H0.out.sto.kept HF3q.out (fun j hj e => by subst e; exact hpb hj))
  have hget := get_any HSQ.out (x := rd) hrd0 (bs := bytesFrom f rd c) (fun i hi => by
    rw [bytesFrom_len] at hi
    rw [bytesFrom_get]
    refine At.kept (b := b) ?_ HF3q.out (fun j hj e => by subst e; exact hpb hj)
    exact H0.out.byt _ (gap_all H0.out.r.ok.fit F.read _ (by rw [HRD.out]; omega) (by show _ < F.gap; rw [HGP.out]; have := HC1.out.2; omega))) c (bytesFrom_len _ _ _) (by omega) (by have := HC1.out.2; omega)
  clear hpb
  simp only [List.take_succ_cons, List.take_zero, List.drop_succ_cons, List.drop_zero]
  iterate 9 still_step
  refine wpStill_nil ?_
  go_wp2_with (go_at_call 30; refine hget.mono ?_; rintro e w4 ⟨rfl, hrow, hb4⟩; have HX4 := hid (And.intro hrow hb4); clear hrow hb4 hget)
  clear q1 q5 HRW
  have HS4q : Hid (BvAt { w4 with drawn := w4.drawn + 1 } p v (Bf.cells b { F with read := F.read + F.cnt k }) F.L) := (HS3q.out.kept HX4.out.2).kept ⟨rfl, rfl, rfl, Nat.le_refl _, fun _ _ => rfl⟩
  have HSQ4 : Hid (Sto w4 b n D) := HSQ.out.kept_below HX4.out.2
  have HTQ : Hid (∀ w5 v', Turned { w4 with drawn := w4.drawn + 1 } w5 p v v' → Turned w4 w5 p v v') := fun w5 v' hT => ⟨hT.os, hT.tape, hT.output, hT.size, hT.block, hT.row⟩
  refine wp_region_still_tail 7 (by kernel_rfl) (by decide +kernel) ?_
  generalize ({ w4 with drawn := w4.drawn + 1 } : World) = wr at *
  have HRW : Hid (Row wr p (v :: Bf.cells b { F with read := F.read + F.cnt k }) 57) := ⟨HS4q.out.hp⟩
  have q5 := HRW.out.cell 5 _ rfl
  simp only [HRD.out, HC.out] at q5
  have hbel := bv_below_any HS4q.out H0.out.r.ok.fit (by have := H0.out.r.ok.len; omega) (F.read + F.cnt k) (by rw [HRD.out, HC.out]; omega)
  have HBL := hid hbel
  rw [HRD.out, HC.out] at HBL
  have HE2 : Hid (Bf.cells b { F with read := F.read + F.cnt k } = Bf.cells b { F with read := rd + c }) := by show _ = _; rw [HRD.out, HC.out]
  clear hbel HSQ HS3q HS4q HRW
  simp only [List.take_succ_cons, List.take_zero, List.drop_succ_cons, List.drop_zero]
  iterate 7 still_step
  refine wpStill_nil ?_
  go_wp2_with (go_at_call 31; refine HBL.out.mono ?_; rintro e w5 ⟨rfl, v5, hS5, hT5⟩; have HS5 := hid hS5; have HT5 := hid (HTQ.out _ _ hT5); clear hS5 hT5)
  clear q5 HBL HTQ
  have HS5q : Hid (BvAt { w5 with drawn := w5.drawn + 1 } p v5 (Bf.cells b { F with read := rd + c }) (remL F.L (0, rd + c))) := HS5.out.kept ⟨rfl, rfl, rfl, Nat.le_refl _, fun _ _ => rfl⟩
  have hpb : ¬ SB b D p := H0.out.sto.not_of_cells H0.out.r.set.hp (by decide)
  have HSQ5 : Hid (Sto { w5 with drawn := w5.drawn + 1 } b n D) := HSQ4.out.kept (S := fun j => j = p ∨ v.ownBlock = some j) ⟨HT5.out.os, HT5.out.tape, HT5.out.output, HT5.out.size, fun j hj hn => HT5.out.block j hj (fun e => hn (.inl e)) (fun e => hn (.inr e.symm))⟩ (by
    rintro j hj (e | e)
    · subst e; exact hpb hj
    · rcases H0.out.r.set.own.2 with ⟨rfl, _⟩ | ⟨g', cp, cur, rfl, _, hgg, _⟩
      · simp [Value.ownBlock] at e
      · simp only [Value.ownBlock, Option.some.injEq] at e
        subst e
        exact H0.out.sto.not_of_cells hgg (by decide) hj)
  have HLQ : Hid (∀ w6 D', LessAt { w5 with drawn := w5.drawn + 1 } w6 b n D D' (rd / 1024) ((rd + c) / 1024) → ∃ go, Value.slice (some ⟨wq.heap.size, 0, none⟩) c c = .slice (some ⟨go, 0, none⟩) c c ∧ w1.heap.size ≤ go ∧
      ∃ v' D', BufAt w6 p v' b n D' (F.readOn k) f ∧ Fr (Foot p v b D) w1 w6 ∧ (∀ j, Foot p v' b D' j → Foot p v b D j ∨ w1.heap.size ≤ j) ∧ Row w6 go (bcells (bytesFrom f F.read c)) 5 ∧ ¬ Foot p v' b D' go) := fun w6 D' hL => by
    have hL' : LessAt w5 w6 b n D D' (F.read / 1024) ((F.read + F.cnt k) / 1024) := by rw [HRD.out, HC.out]; exact ⟨hL.sto, ⟨hL.fr.os, hL.fr.tape, hL.fr.output, hL.fr.size, hL.fr.block⟩, hL.bl⟩
    obtain ⟨r1, r2, r3, r4, r5⟩ := read_done H0.out hk (by rw [HRD.out]; exact hm) HF3q.out HX4.out.2 (by rw [HC.out, HRD.out]; exact HS5.out) HT5.out hL' HX4.out.1
    exact ⟨_, rfl, HF3q.out.size, v5, D', r1, r2, r3, by rw [HRD.out]; exact r4, r5⟩
  clear HS5 HT5 hpb HSQ4 HX4 HF3q HE2
  refine wp_region_still_tail 9 (by kernel_rfl) (by decide +kernel) ?_
  generalize ({ w5 with drawn := w5.drawn + 1 } : World) = ws at *
  have HRW : Hid (Row ws p (v5 :: Bf.cells b { F with read := rd + c }) 57) := ⟨HS5q.out.hp⟩
  have q1 := HRW.out.cell 1 _ rfl
  have q5 := HRW.out.cell 5 _ rfl
  simp only at q5
  have hfg := forget_any HSQ5.out (x := rd) (y := rd + c) hrd0 (by omega) (by omega)
  clear HRW HS5q HSQ5
  simp only [List.take_succ_cons, List.take_zero, List.drop_succ_cons, List.drop_zero]
  iterate 9 still_step
  refine wpStill_nil ?_
  go_wp2_with (go_at_call 32; refine hfg.mono ?_; rintro e w6 ⟨rfl, D6, hL6⟩; have HF := hid (HLQ.out _ _ hL6); clear hL6 hfg HLQ)
  refine bodyPost_ret (results_tmp3 Try.results12 _ _ _) rfl ?_
  obtain ⟨go, e1, r1, r2⟩ := HF.out
  exact ⟨wq.heap.size, rfl, by injection e1 with e1; injection e1 with e1; injection e1 with e1; rw [e1]; exact r1, by injection e1 with e1; injection e1 with e1; injection e1 with e1; rw [e1]; exact r2⟩
end Go.Proofs.Ytimiokbnhneggaa
