import Derived.Test.YtfhjiggaacgncaaDoorCr1
import Derived.Test.YtfhjiggaacgncaaDoorJo0
import Derived.Test.YtfhjiggaacgncaaDoorTx4
namespace Go.Proofs.YtfhjiggaacgncaaDoor
open Go.RowKit Go.Maps Go.Sort
set_option maxRecDepth 100000

section
variable {w : World} {p : Nat} {D : Dk}
theorem has40 (h : DkAt w p D) (h1 : 40 ≤ D.N.length) (h2 : D.N.length ≤ 16777216) : Calls Tryd.prog 65 #[pt p 0, .int .i64 0, .int .i64 40] w fun e w' => e = .returned (.bool true) ∧ w' = w := by
  have HS := hid (size_any h)
  obtain ⟨N, hN⟩ : ∃ N, D.N.length = N := ⟨_, rfl⟩
  rw [hN] at HS h1 h2
  have j1 : (40 : Int) ≤ N := by omega
  have j2 : IntKind.i64.wrap (N : Int) = N := by rw [IntKind.wrap_i64]; omega
  clear h hN
  go_enter Tryd.func65, Tryd.ntmps65
  go_wp2_with (go_at_call 10; refine HS.out.mono ?_; rintro e w1 ⟨rfl, hw1⟩; subst hw1)
  go_ret
  exact ⟨rfl, rfl⟩
/-- The first forty bytes. -/
theorem read40 (h : DkAt w p D) (h1 : 40 ≤ D.N.length) (h2 : D.N.length ≤ 16777216) : Calls Tryd.prog 47 #[pt p 0, .int .i64 0, .int .i64 40] w fun e w' => ∃ v, e = .returned (.tuple #[v, .int .i64 0]) ∧ OwnBy w' w.heap.size v (D.N.take 40) ∧ Below w.heap.size w w' := by
  have HS := hid (has40 h h1 h2)
  have c1 := h.row.cell 1 _ rfl
  obtain ⟨a, cap, e, hB, hc1, hc2, _⟩ := ownBy_shape h.now
  rw [e] at c1
  unfold Dk.nv at e
  injection e with e1 e2 e3
  subst e1 e3
  have hB2 : BytesAt w (some ⟨D.gn, 0, none⟩) (D.N.take 40) := fun k hk => by
    rw [List.length_take] at hk
    obtain ⟨g, o, e, hc⟩ := hB k (by omega)
    refine ⟨g, o, e, ?_⟩
    rw [List.getElem_take]
    exact hc
  have hl : (D.N.take 40).length = 40 := by rw [List.length_take]; omega
  have HC := hid (clone_any (cap := D.cn) hB2 hl (by decide))
  obtain ⟨N, hN⟩ : ∃ N, D.N.length = N := ⟨_, rfl⟩
  rw [hN] at c1 hc1 h1 h2
  have j1 : (40 : Int) ≤ D.cn := by omega
  have j3 : 40 ≤ D.cn := by omega
  clear h hB hB2 e2 hN
  go_enter Tryd.func47, Tryd.ntmps47
  go_wp2_with (first | (go_at_call 65; refine HS.out.mono ?_; rintro e w1 ⟨rfl, hw1⟩; subst hw1) | (go_at_call 35; refine HC.out.mono ?_; rintro e w2 ⟨v, rfl, hO, hb⟩; have HX := hid (And.intro hO hb); clear hO hb))
  go_ret2
  exact ⟨_, rfl, HX.out.1, HX.out.2⟩
end
section
variable {w0 w w' : World} {p q n b s k : Nat} {P B : Rcs} {X : List (Nat × List Value)}
theorem cr_recw (h : CrS w0 w p q n b P B s X) (hn : n ≤ 16777216) : Calls Tryd.prog 17 #[pt q 0] w fun e w' => ∃ a c, e = .returned (.slice a P.length c) ∧ RecW w' w.heap.size (.slice a P.length c) P ∧ Below w.heap.size w w' := by
  obtain ⟨M, F, ⟨D, G, hj, h1, h2, h3, _⟩, _⟩ := h
  have hl := p_len P
  have hfit := h2.fit
  have := records_own hj.lg (by rw [rs_of h3]; omega) (fun x hx => (h2.fine (x.k, x.b) (by rw [← h3]; exact List.mem_map.2 ⟨x, hx, rfl⟩)).2)
  rw [show (G.R.map fun x => (x.k, x.b)) = P from h3] at this
  refine this.mono ?_
  rintro e w' ⟨v, rfl, hR, hb⟩
  obtain ⟨R, hRL, hO, hB⟩ := hR.ex
  obtain ⟨a, c, ev, -⟩ := own_len hO
  have hl : R.length = P.length := by rw [← hRL]; simp
  rw [hl] at ev
  subst ev
  exact ⟨a, c, rfl, hR, hb⟩
theorem cr_read (h : CrS w0 w p q n b P B s X) (h1 : 40 ≤ n) (hn : n ≤ 16777216) : Calls Tryd.prog 47 #[pt p 0, .int .i64 0, .int .i64 40] w fun e w' => ∃ v bs, e = .returned (.tuple #[v, .int .i64 0]) ∧ OwnBy w' w.heap.size v bs ∧ bs.length ≤ n ∧ Below w.heap.size w w' := by
  obtain ⟨M, F, ⟨D, G, hj, rfl, h2, _⟩, _⟩ := h
  have hl := h2.len.2
  refine (read40 hj.dk (by rw [hl]; exact h1) (by rw [hl]; exact hn)).mono ?_
  rintro e w' ⟨v, rfl, h3, h4⟩
  exact ⟨v, _, rfl, h3, by rw [List.length_take]; omega, h4⟩
theorem cr_image (h : CrS w0 w p q n b P B s X) (hn : n ≤ 16777216) : Calls Tryd.prog 12 #[pt p 0] w fun e w' => ∃ v bs, e = .returned v ∧ OwnBy w' w.heap.size v bs ∧ bs.length ≤ n ∧ Below w.heap.size w w' := by
  obtain ⟨M, F, ⟨D, G, hj, rfl, h2, _⟩, _⟩ := h
  have hl := h2.len.1
  refine (image_any hj.dk (by rw [hl]; exact hn)).mono ?_
  rintro e w' ⟨v, rfl, h3, h4⟩
  exact ⟨v, _, rfl, h3, by omega, h4⟩
end
end Go.Proofs.YtfhjiggaacgncaaDoor
