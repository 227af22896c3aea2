import Derived.Test.YtfhjiggaacgncaaDoorJd2
namespace Go.Proofs.YtfhjiggaacgncaaDoor
open Go.RowKit Go.Maps Go.Sort
set_option maxRecDepth 100000

/-- All writes, one behind the other. -/
def layAll (S : List (BitVec 8)) (W : List Wr) : List (BitVec 8) := W.foldl (fun S x => lay S x.at_ x.bs) S
theorem layAll_app (S : List (BitVec 8)) (A B : List Wr) : layAll S (A ++ B) = layAll (layAll S A) B := List.foldl_append
/-- Writes that may be laid. -/
def Fits (n : Nat) (W : List Wr) : Prop := ∀ x ∈ W, x.at_ + x.bs.length ≤ n ∧ x.at_ < n
theorem layAll_len {n : Nat} : ∀ (W : List Wr) {S : List (BitVec 8)}, Fits n W → S.length = n → (layAll S W).length = n
  | [], _, _, h => h
  | x :: r, S, hf, h => layAll_len r (fun y hy => hf y (List.mem_cons_of_mem _ hy)) (by rw [lay_len (by rw [h]; exact (hf x (by simp)).1), h])
theorem layAll_take (S : List (BitVec 8)) (W : List Wr) (k : Nat) (h : k < W.length) : layAll S (W.take (k + 1)) = lay (layAll S (W.take k)) W[k].at_ W[k].bs := by
  rw [List.take_succ_eq_append_getElem h, layAll_app]; rfl
/-- Writes that lie from an address on, to be read. -/
def EltAt (w : World) (X : Nat) (a : Option Addr) (W : List Wr) : Prop := ∀ k (h : k < W.length), ∃ g o, a = some ⟨g, o, none⟩ ∧ g ≠ X ∧ w.cell? ⟨g, o + k * 2, none⟩ = some (.int .i64 W[k].at_) ∧ w.cell? ⟨g, o + k * 2 + 1, none⟩ = some W[k].v
theorem EltAt.take {w : World} {X : Nat} {a : Option Addr} {W : List Wr} (h : EltAt w X a W) (n : Nat) : EltAt w X a (W.take n) := fun k hk => by
  have hk2 : k < W.length := by rw [List.length_take] at hk; omega
  obtain ⟨g, o, e, h0, h1, h2⟩ := h k hk2
  exact ⟨g, o, e, h0, by rw [List.getElem_take]; exact h1, by rw [List.getElem_take]; exact h2⟩
theorem eltAt_own {w : World} {X : Nat} {v : Value} {W : List Wr} (h : w.ownsRow 0 92 2 v W.length (flatW W)) (hX : v.ownBlock ≠ some X) : ∃ a cap, v = .slice a W.length cap ∧ EltAt w X a W ∧ W.length ≤ cap ∧ cap ≤ maxLen := by
  obtain ⟨hl, ⟨rfl, hn⟩ | ⟨g, cap, cur, rfl, hb, hg, hnc, hcm, hcs, htk⟩⟩ := h
  · exact ⟨none, 0, by rw [hn], fun k hk => by omega, by omega, Nat.zero_le _⟩
  · refine ⟨some ⟨g, 0, none⟩, cap, rfl, fun k hk => ⟨g, 0, rfl, fun e => hX (by rw [e]; rfl), ?_, ?_⟩, hnc, hcm⟩
    · have := flatW_at W k 0 hk (by omega)
      rw [← htk, List.getElem?_take, if_pos (by omega), Array.getElem?_toList] at this
      rw [Nat.zero_add, cell_of_row w g _ _ _ _ hg]
      exact this
    · have := flatW_at W k 1 hk (by omega)
      rw [← htk, List.getElem?_take, if_pos (by omega), Array.getElem?_toList] at this
      rw [Nat.zero_add, cell_of_row w g _ _ _ _ hg]
      exact this
set_option maxHeartbeats 1000000 in
theorem save_any {w : World} {p g c : Nat} {S : List (BitVec 8)} {a : Option Addr} {cap : Nat} {W : List Wr} (hp : w.cell? ⟨p, 0, none⟩ = some (.slice (some ⟨g, 0, none⟩) S.length c)) (hpg : p ≠ g)
    (hO : OwnBy w 0 (.slice (some ⟨g, 0, none⟩) S.length c) S) (hE : EltAt w g a W) (hB : ∀ x ∈ W, OwnBy w 0 x.v x.bs ∧ x.v.ownBlock ≠ some g) (hF : Fits S.length W) (hl : W.length ≤ 140737488355328) :
    Calls Tryd.prog 40 #[pt p 0, .slice a W.length cap] w fun e w' => e = .returned (.tuple #[]) ∧ OwnBy w' 0 (.slice (some ⟨g, 0, none⟩) S.length c) (layAll S W) ∧ Fr (fun x => x = g) w w' := by
  have HR : Hid (∀ k wr, k < W.length → OwnBy wr 0 (.slice (some ⟨g, 0, none⟩) S.length c) (layAll S (W.take k)) → Fr (fun x => x = g) w wr →
      ∃ g2 o2 a2 n2 c2, a = some ⟨g2, o2, none⟩ ∧ wr.cell? ⟨p, 0, none⟩ = some (.slice (some ⟨g, 0, none⟩) S.length c) ∧ wr.cell? ⟨g2, o2 + k * 2, none⟩ = some (.int .i64 (W[k]?.getD ⟨0, undef, []⟩).at_) ∧ wr.cell? ⟨g2, o2 + k * 2 + 1, none⟩ = some (.slice a2 n2 c2) ∧
        ∀ w1, Below wr.heap.size wr w1 → Calls Tryd.prog 44 #[.agg #[.int .i64 (W[k]?.getD ⟨0, undef, []⟩).at_, .slice a2 n2 c2], .slice (some ⟨g, 0, none⟩) S.length c] w1 fun e w' => e = .returned (.tuple #[]) ∧ OwnBy w' 0 (.slice (some ⟨g, 0, none⟩) S.length c) (layAll S (W.take (k + 1))) ∧ Fr (fun x => x = g) w w') := by
    intro k wr hk hO1 hF1
    obtain ⟨g2, o2, rfl, hg2, c1, c2⟩ := hE k hk
    have hx := hB _ (List.getElem_mem hk)
    have hxF := hF _ (List.getElem_mem hk)
    have hx1 := hF1.own hx.1 (fun y e => fun e' => hx.2 (e' ▸ e))
    obtain ⟨a2, cc2, e2, hBy, hlc, hcm, hz, _⟩ := ownBy_shape hx1
    have hlen : (layAll S (W.take k)).length = S.length := layAll_len _ (fun y hy => hF y (List.mem_of_mem_take hy)) rfl
    rw [e2] at c2
    have eg : W[k]?.getD ⟨0, undef, []⟩ = W[k] := by rw [List.getElem?_eq_getElem hk]; rfl
    refine ⟨g2, o2, a2, _, cc2, rfl, hF1.cell hp (fun e => hpg e), by rw [eg]; exact hF1.cell c1 (fun e => hg2 e), hF1.cell c2 (fun e => hg2 e), fun w1 hb1 => ?_⟩
    rw [eg]
    have hO2 := own_below hO1 hb1
    rw [← hlen] at hO2 ⊢
    refine (onto_any (S := layAll S (W.take k)) hO2 (hBy.kept hb1) rfl hz (by rw [hlen]; exact hxF.1) (by rw [hlen]; exact hxF.2)).mono ?_
    rintro e w' ⟨rfl, h1, h2⟩
    refine ⟨rfl, by rw [layAll_take S W k hk]; exact h1, ?_⟩
    exact (hF1.trans (T := fun _ => False) (Fr.of_below hb1 (Nat.le_refl _)) (fun _ e => e.elim)).trans h2 (fun _ e => .inl e)
  have hl' : (W.length : Int) ≤ 140737488355328 := by omega
  have HO := hid (show OwnBy w 0 (.slice (some ⟨g, 0, none⟩) S.length c) (layAll S (W.take 0)) from by rw [List.take_zero]; exact hO)
  have HT := hid (List.take_length (l := W))
  generalize S.length = L at *
  generalize hm : W.length = m at *
  clear hE hB hF hO hp
  go_enter Tryd.func40, Tryd.ntmps40
  go_wp2
  go_loopw [8] (fun i wr => ∃ k : Nat, k ≤ m ∧ i = .int .i64 k ∧ OwnBy wr 0 (.slice (some ⟨g, 0, none⟩) L c) (layAll S (W.take k)) ∧ Fr (fun x => x = g) w wr) (fun i _ => m - (intOf i).toNat)
  case atStart => exact ⟨0, Nat.zero_le _, rfl, HO.out, Fr.refl _ _⟩
  case round =>
    obtain ⟨k, hk, rfl, hO1, hF1⟩ := hrel
    by_cases hlt : k < m
    · obtain ⟨g2, o2, a2, n2, c2, rfl, d0, d1, d2, hC⟩ := HR.out k wr hlt hO1 hF1
      have HC := hid hC
      clear hC hO1 hF1 HR HO HT hm
      generalize (W[k]?.getD ⟨0, undef, []⟩).at_ = at_ at *
      go_upto_region 3 with fail
      have hb1 := below_new wr (.cells #[.int .i64 at_, .slice a2 n2 c2] 92)
      have R1 := Row.new wr [.int .i64 at_, .slice a2 n2 c2] 92
      have e0 := cell_kept hb1 d0
      have HW := hid (HC.out _ (below_drewN hb1 1))
      clear hb1 HC d0 d1 d2
      revert R1 e0 HW
      generalize wr.alloc (.cells #[.int .i64 at_, .slice a2 n2 c2] 92) = w1
      intro R1 e0 HW
      have e1 := R1.cell 0 _ rfl
      have e2 := R1.cell 1 _ rfl
      clear R1
      go_region_with (go_at_call 44; refine HW.out.mono ?_; rintro e w2 ⟨rfl, hO2, hF2⟩; have HX := hid (And.intro hO2 hF2); clear hO2 hF2)
      all_goals go_wp2
      all_goals go_roundw
      all_goals first | exact ⟨k + 1, hlt, by go_num, HX.out.1, HX.out.2⟩ | (simp [intOf]; omega)
    · have e : k = m := by omega
      subst e
      have HZ := hid (And.intro hO1 hF1)
      clear hO1 hF1
      go_wp2
      refine bodyPost_end (results_none Tryd.results40 _ _ _) rfl ?_
      have h1 := HZ.out.1
      rw [← hm, List.take_length] at h1
      exact ⟨rfl, h1, HZ.out.2⟩
end Go.Proofs.YtfhjiggaacgncaaDoor
