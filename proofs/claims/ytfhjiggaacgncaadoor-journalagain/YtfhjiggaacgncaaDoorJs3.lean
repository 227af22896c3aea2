import Derived.Test.YtfhjiggaacgncaaDoorJs2
namespace Go.Proofs.YtfhjiggaacgncaaDoor
open Go.RowKit Go.Maps Go.Sort
set_option maxRecDepth 100000

theorem rightP_some {l : List (BitVec 8)} {i : Nat} {k : BitVec 8} {b : List (BitVec 8)} (h : rightP l i = some (k, b)) : Fine (k, b) ∧ l = recL i k b ++ l.drop (18 + b.length) := by
  have hl := rightP_len h
  unfold rightP at h
  cases hr : reachP l with
  | none => rw [hr] at h; cases h
  | some n =>
    rw [hr] at h
    simp only at h
    obtain ⟨n1, n2, n3⟩ := reachP_bd hr
    split at h
    · rename_i hc
      injection h with h
      injection h with h1 h2
      rw [h1] at hc
      rw [h2] at hc
      have hbl : b.length = n - 18 := by rw [← h2]; simp; omega
      refine ⟨⟨hc.1, hl.2⟩, ?_⟩
      rw [hc.2, show 18 + b.length = n by omega, List.take_append_drop]
    · cases h
/-- What is found of any bytes. -/
theorem scan_any (N : List (BitVec 8)) : ∀ (f e i : Nat), (∀ x ∈ scan N f e i, Fine x) ∧ ∃ t, N.drop e = enc i (scan N f e i) ++ t
  | 0, e, i => ⟨fun x hx => by simp [scan] at hx, N.drop e, rfl⟩
  | f + 1, e, i => by
    rw [scan]
    cases hr : rightP (N.drop e) i with
    | none => exact ⟨fun x hx => by simp at hx, N.drop e, rfl⟩
    | some x =>
      obtain ⟨k, b⟩ := x
      obtain ⟨hF, heq⟩ := rightP_some hr
      obtain ⟨h1, t, h2⟩ := scan_any N f (e + (18 + b.length)) (i + 1)
      refine ⟨fun y hy => ?_, t, ?_⟩
      · rcases List.mem_cons.1 hy with rfl | hy
        · exact hF
        · exact h1 y hy
      · rw [heq, List.drop_drop, h2, enc, List.append_assoc]
theorem build78b (w : World) (a b : Option Addr) (n m c d : Nat) : (Instr.build 78 #[(0, .slice a n c), (1, .slice b m d)]).run Tryd.prog w = .ok (.agg #[.slice a n c, .slice b m d, .slice none 0 0, .int .i64 0]) w := build78 w a b n m c d
/-- A disk with these bytes. -/
def LoadDk (w : World) (N : List (BitVec 8)) (e : Ending) (w' : World) : Prop := ∃ p D, e = .returned (.tuple #[pt p 0, .int .i64 0]) ∧ DkAt w' p D ∧ Below w.heap.size w w' ∧ (∀ k, D.Mem p k → w.heap.size ≤ k) ∧ D.S = N ∧ D.N = N ∧ D.W = []
theorem own_some {w : World} {B : Nat} {v : Value} {l : List (BitVec 8)} (h : OwnBy w B v l) (h1 : 1 ≤ l.length) : ∃ g c, v = .slice (some ⟨g, 0, none⟩) l.length c := by
  obtain ⟨_, ⟨rfl, hn⟩ | ⟨g, cap, cur, rfl, _⟩⟩ := h
  · omega
  · exact ⟨g, cap, rfl⟩
set_option maxHeartbeats 1000000 in
theorem load_ok {w : World} {a : Option Addr} {N : List (BitVec 8)} {n cap : Nat} (hB : BytesAt w a N) (hn : N.length = n) (h1 : 1 ≤ n) (h2 : n ≤ 16777216) : Calls Tryd.prog 14 #[.slice a n cap] w (LoadDk w N) := by
  have hM := maybe_any w (n : Int)
  rw [decide_eq_true ⟨by omega, by omega⟩] at hM
  have HM := hid hM
  have HC : Hid (∀ w1, Below w.heap.size w w1 → Calls Tryd.prog 35 #[.slice a n cap] w1 fun e w' => ∃ g c, e = .returned (.slice (some ⟨g, 0, none⟩) n c) ∧ OwnBy w' w1.heap.size (.slice (some ⟨g, 0, none⟩) n c) N ∧ Below w1.heap.size w1 w') := fun w1 hb => by
    refine (clone_any (hB.kept hb) hn (by omega)).mono ?_
    rintro e w' ⟨v, rfl, hO, hb'⟩
    obtain ⟨g, c, rfl⟩ := own_some hO (by omega)
    exact ⟨g, c, by rw [← hn], by rw [← hn]; exact hO, hb'⟩
  have hbd := build78b
  have HN := hid hn
  clear hM hB h1 h2 hn
  go_enter Tryd.func14, Tryd.ntmps14
  go_wp2_with (first | (go_at_call 33; refine HM.out.mono ?_; rintro e w1 ⟨rfl, rfl⟩; have HA := hid (HC.out w1 (Below.refl _ _))) | (go_at_call 35; refine HA.out.mono ?_; rintro e w2 ⟨g2, c2, rfl, hO2, hb2⟩; have HO2 := hid hO2; have HB2 := hid hb2; have HA2 := hid (HC.out w2 hb2); clear hO2 hb2 HA) | (go_at_call 35; refine HA2.out.mono ?_; rintro e w3 ⟨g3, c3, rfl, hO3, hb3⟩; have HO3 := hid hO3; have HB3 := hid hb3; clear hO3 hb3 HA2))
  go_ret2
  have hbx := below_new w3 (.cells #[.slice (some ⟨g2, 0, none⟩) n c2, .slice (some ⟨g3, 0, none⟩) n c3, .slice none 0 0, .int .i64 0] 78)
  have hg2 := own_lt HO2.out (g := g2) rfl
  have hg2' := own_ge HO2.out (g := g2) rfl
  have hg3 := own_ge HO3.out (g := g3) rfl
  have hs2 := HB2.out.size
  have hs3 := HB3.out.size
  refine ⟨w3.heap.size, ⟨g2, c2, g3, c3, .slice none 0 0, N, N, [], 0⟩, rfl, ⟨?_, ?_, ?_, ⟨rfl, .inl ⟨rfl, rfl⟩⟩, fun x hx => (by cases hx), fun x hx => (by cases hx), by show g2 ≠ g3; omega⟩, below_two (below_two HB2.out HB3.out (Nat.le_refl _)) hbx (Nat.le_refl _), ?_, rfl, rfl, rfl⟩
  · unfold Dk.sv Dk.nv
    rw [HN.out]
    exact Row.new' w3 _ _ 78 _ rfl rfl
  · unfold Dk.sv
    rw [HN.out]
    exact own_less (own_below (own_below HO2.out HB3.out) hbx) (Nat.zero_le _)
  · unfold Dk.nv
    rw [HN.out]
    exact own_less (own_below HO3.out hbx) (Nat.zero_le _)
  · rintro k (rfl | rfl | rfl | e | ⟨x, hx, _⟩)
    · show _ ≤ w3.heap.size; omega
    · exact hg2'
    · omega
    · simp [Value.ownBlock] at e
    · cases hx
theorem load_no (w : World) (a : Option Addr) (n cap : Nat) (h : ¬ (1 ≤ n ∧ n ≤ 16777216)) : Calls Tryd.prog 14 #[.slice a n cap] w fun e w' => e = .returned (.tuple #[.pointer none, .int .i64 210]) ∧ w' = w := by
  have hM := maybe_any w (n : Int)
  rw [decide_eq_false (by omega)] at hM
  have HM := hid hM
  clear hM h
  go_enter Tryd.func14, Tryd.ntmps14
  go_wp2_with (go_at_call 33; refine HM.out.mono ?_; rintro e w1 ⟨rfl, rfl⟩)
  go_ret2
  exact ⟨rfl, rfl⟩
/-- Two logs of one disk, the second one opened behind the first. -/
structure Two (w : World) (p q1 q2 n : Nat) (L : List (BitVec 8 × List (BitVec 8))) : Prop where
  one : ∃ G1, LgAt w q1 G1 ∧ G1.pr = L
  two : ∃ M, St w M p q2 n L L.length
theorem Two.kept {w w' : World} {p q1 q2 n : Nat} {L : List (BitVec 8 × List (BitVec 8))} (h : Two w p q1 q2 n L) (hb : Below w.heap.size w w') : Two w' p q1 q2 n L := by
  obtain ⟨⟨G, h1, h2⟩, M, h3⟩ := h
  exact ⟨⟨G, h1.kept hb, h2⟩, M, h3.kept hb⟩
/-- The first Open of a disk with any bytes. -/
def One (w : World) (base hi p q n : Nat) (L : List (BitVec 8 × List (BitVec 8))) : Prop := ∃ D G, JL w q D G ∧ G.p = p ∧ Row2 L L.length n D ∧ G.pr = L ∧ G.end_ = (enc 0 L).length ∧ G.size = n ∧ G.born = D.lives ∧ ∀ x, JMem q D G x → base ≤ x ∧ x < hi
theorem One.kept {w w' : World} {base hi p q n : Nat} {L : List (BitVec 8 × List (BitVec 8))} (h : One w base hi p q n L) (hb : Below w.heap.size w w') : One w' base hi p q n L := by
  obtain ⟨D, G, hj, h1⟩ := h
  exact ⟨D, G, hj.kept hb, h1⟩
theorem load_open {w : World} {base p n : Nat} {D : Dk} (hD : DkAt w p D) (hS : D.S = D.N) (hW : D.W = []) (hl : D.N.length = n) (h1 : 1 ≤ n) (h2 : n ≤ 16777216) (hT : CrcTab w) (hM : ∀ k, D.Mem p k → base ≤ k) (hb : base ≤ w.heap.size) {L : List (BitVec 8 × List (BitVec 8))} (hL : scan D.N (n + 1) 0 0 = L) : Calls Tryd.prog 9 #[pt p 0] w fun e w' => ∃ q, e = .returned (.tuple #[pt q 0, .int .i64 0]) ∧ One w' base w'.heap.size p q n L ∧ Below base w w' := by
  refine (open_any hD (good_calm hS hW hl h1 h2) hT).mono ?_
  rintro e w' ⟨q, D', G, rfl, hO⟩
  have hpr : G.pr = L := by rw [← hL, ← hl]; exact hO.pr
  obtain ⟨hF, t, ht⟩ := scan_any D.N (n + 1) 0 0
  rw [List.drop_zero] at ht
  rw [hL] at hF ht
  have hen : G.end_ = (enc 0 L).length := by rw [hO.en, hpr, enc_len]
  have hfit : (enc 0 L).length ≤ n := by rw [← hl, ht, List.length_append]; omega
  have hc : cleanL D.N G.end_ = cont n (enc 0 L) := by
    unfold cleanL cont
    rw [hen, hl, ht, List.take_left' rfl]
  have hfr : Fr (D.Mem p) w w' := hO.fr
  refine ⟨q, rfl, ⟨D', G, hO.at_, hO.gp, ⟨Nat.le_refl _, hF, hfit, by rw [hO.dS]; exact hc.trans (by rw [List.take_length]), by rw [hO.dN]; exact hc, by rw [hO.dW]; simp, fun j hj => by rw [hO.dW] at hj; simp at hj⟩, hpr, hen, hO.size.trans hl, by rw [hO.born, hO.dl], fun x hx => ?_⟩, hfr.below hM hb⟩
  refine ⟨?_, hO.at_.lt hx⟩
  rcases hx with e | e
  · exact hM x (hO.dsub x (hO.gp ▸ e))
  · exact Nat.le_trans hb (hO.gnew x e)
theorem one_image {w : World} {base hi p q n : Nat} {L : List (BitVec 8 × List (BitVec 8))} (h : One w base hi p q n L) (hn : n ≤ 16777216) : Calls Tryd.prog 12 #[pt p 0] w fun e w' => ∃ a c, e = .returned (.slice a n c) ∧ BytesAt w' a (cont n (enc 0 L)) ∧ (∀ g o, a = some ⟨g, o, none⟩ → w.heap.size ≤ g) ∧ Below w.heap.size w w' := by
  obtain ⟨D, G, hj, rfl, h2, _⟩ := h
  refine (image_any hj.dk (by rw [h2.len.1]; exact hn)).mono ?_
  rintro e w' ⟨v, rfl, hO, hb⟩
  rw [h2.dS, List.take_length] at hO
  obtain ⟨a, c, rfl, hB, _, _, _, h5⟩ := ownBy_shape hO
  rw [cont_len h2.fit]
  exact ⟨a, c, rfl, hB, fun g o e => (h5 g o e).1, hb⟩
theorem two_image {w : World} {p q1 q n : Nat} {L : List (BitVec 8 × List (BitVec 8))} (h : Two w p q1 q n L) (hn : n ≤ 16777216) : Calls Tryd.prog 12 #[pt p 0] w fun e w' => ∃ a c, e = .returned (.slice a n c) ∧ BytesAt w' a (cont n (enc 0 L)) ∧ Below w.heap.size w w' := by
  obtain ⟨_, M, D, G, hj, rfl, h2, _⟩ := h
  refine (image_any hj.dk (by rw [h2.len.1]; exact hn)).mono ?_
  rintro e w' ⟨v, rfl, hO, hb⟩
  rw [h2.dS, List.take_length] at hO
  obtain ⟨a, c, rfl, hB, h3, h4, _⟩ := ownBy_shape hO
  rw [cont_len h2.fit]
  exact ⟨a, c, rfl, hB, hb⟩
/-- The second Open. -/
theorem one_open {w : World} {base hi p q n : Nat} {L : List (BitVec 8 × List (BitVec 8))} (h : One w base hi p q n L) (h1n : 1 ≤ n) (hn : n ≤ 16777216) (hT : CrcTab w) : Calls Tryd.prog 9 #[pt p 0] w fun e w' => ∃ q2, e = .returned (.tuple #[pt q2 0, .int .i64 0]) ∧ Two w' p q q2 n L ∧ Fr (fun x => base ≤ x ∧ x < hi) w w' := by
  obtain ⟨D, G, hj, rfl, h2, h3, h4, h5, h6, h7⟩ := h
  refine (open_any hj.dk (h2.good h1n hn) hT).mono ?_
  rintro e w' ⟨q', D', G', rfl, hO⟩
  have ho := opened_of (M := JMem q D G) (p := G.p) h2.fine h2.fit h2.left_now h2.len.2 (fun x hx => .inl hx) hO
  rw [List.take_length] at ho
  obtain ⟨q2, M2, e2, hS2, _⟩ := ho
  injection e2 with e2
  have hq : q' = q2 := by simpa [pt] using e2
  subst hq
  have hfr : Fr (D.Mem G.p) w w' := hO.fr
  exact ⟨q', rfl, ⟨⟨G, hj.lg.fr hfr (fun x hx => hj.ap x hx), h3⟩, M2, hS2⟩, hfr.wider (fun x hx => h7 x (.inl hx))⟩
section
variable {w : World} {p q1 q2 n : Nat} {L : List (BitVec 8 × List (BitVec 8))}
theorem two_len1 (h : Two w p q1 q2 n L) : Calls Tryd.prog 15 #[pt q1 0] w fun e w' => e = .returned (.int .u64 (L.length : Nat)) ∧ w' = w := by
  obtain ⟨⟨G, h1, h2⟩, _⟩ := h
  have := len_any h1
  rw [rs_of h2] at this
  exact this
theorem two_len2 (h : Two w p q1 q2 n L) : Calls Tryd.prog 15 #[pt q2 0] w fun e w' => e = .returned (.int .u64 (L.length : Nat)) ∧ w' = w := by
  obtain ⟨_, M, h3⟩ := h
  exact st_len h3
theorem two_rec2 (h : Two w p q1 q2 n L) (hn : n ≤ 16777216) : Calls Tryd.prog 17 #[pt q2 0] w fun e w' => ∃ v, e = .returned v ∧ RecV w' w.heap.size v L ∧ Below w.heap.size w w' := by
  obtain ⟨_, M, h3⟩ := h
  exact st_records h3 hn
theorem two_rec1 (h : Two w p q1 q2 n L) (hn : n ≤ 16777216) : Calls Tryd.prog 17 #[pt q1 0] w fun e w' => ∃ v, e = .returned v ∧ RecV w' w.heap.size v L ∧ Below w.heap.size w w' := by
  obtain ⟨⟨G, h1, h2⟩, M, D, G2, hj, _, hr, _⟩ := h
  have hl := p_len L
  have hfit := hr.fit
  have := records_any h1 (by rw [rs_of h2]; omega) (fun x hx => (hr.fine (x.k, x.b) (by rw [← h2]; exact List.mem_map.2 ⟨x, hx, rfl⟩)).2)
  rw [show (G.R.map fun x => (x.k, x.b)) = L from h2] at this
  exact this
theorem two_pending (h : Two w p q1 q2 n L) : Calls Tryd.prog 11 #[pt p 0] w fun e w' => e = .returned (.int .i64 0) ∧ w' = w := by
  obtain ⟨_, M, h3⟩ := h
  exact st_pending h3 rfl
theorem two_room (h : Two w p q1 q2 n L) (hn : n ≤ 16777216) : Calls Tryd.prog 18 #[pt q2 0] w fun e w' => e = .returned (.int .i64 (min ((n : Int) - (enc 0 L).length - 18) 65536)) ∧ Below w.heap.size w w' := by
  obtain ⟨_, M, h3⟩ := h
  exact st_room h3 hn
theorem two_fine (h : Two w p q1 q2 n L) : (∀ x ∈ L, Fine x) ∧ (enc 0 L).length ≤ n := by
  obtain ⟨_, M, D, G, hj, _, h2, _⟩ := h
  exact ⟨h2.fine, h2.fit⟩
end
end Go.Proofs.YtfhjiggaacgncaaDoor
