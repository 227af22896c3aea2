import Derived.Test.YtbkfmknjbdonlaaTick1
namespace Go.Proofs.Ytbkfmknjbdonlaa
open Go.RowKit Go.Maps Go.Sort
set_option maxRecDepth 100000

theorem Only.flow_below {W w w' : World} {p b g : Nat} (hb : Below W.heap.size W w) (ho : Only [p, b, g] w w') (hp : W.heap.size ≤ p) (hq : W.heap.size ≤ b) (hg : W.heap.size ≤ g) : Below W.heap.size W w' :=
  hb.trans (ho.below hb.size (fun x hx => by simp only [List.mem_cons, List.not_mem_nil, or_false] at hx; rcases hx with rfl | rfl | rfl <;> assumption))
def fa1 : Fl := ⟨[⟨0, 2, 9, 0, 5⟩], Es.new, 1, 0, 1, 5, 5, 0⟩
theorem fa1_eq : (Fl.new 1).send 5 2 9 0 = fa1 := by
  simp [Fl.new, Fl.send, fa1]
  decide
theorem fa1_ok : fa1.Ok := by rw [← fa1_eq]; exact (Fl.new_ok 1).send (by decide) (by decide) 2 9 0
theorem fa1_rto : fa1.E.rto = 1000 := by decide
set_option maxHeartbeats 2000000 in
theorem awake_any (w : World) : Calls Try.prog 18 #[] w fun e w' => e = .returned (.bool true) ∧ Below w.heap.size w w' := by
  go_enter Try.func18, Try.ntmps18
  go_wp2_with (go_at_call 17; refine (flownew_any w 1).mono ?_; rintro e w1 ⟨p, b, g, rfl, hF, hp, hb, hg, hbl⟩; have H1 := hid hF; have HB1 := hid hbl; have HP := hid (And.intro hp (And.intro hb hg)); clear hF hbl hp hb hg)
  have hS := send_any H1.out (Fl.new_ok 1) (by decide) (by decide) 5 2 9 0
  rw [fa1_eq] at hS
  refine hS.mono ?_
  rintro e w2 ⟨rfl, hF, ho⟩
  have H2 := hid hF
  have HB2 := hid (Only.flow_below HB1.out ho HP.out.1 HP.out.2.1 HP.out.2.2)
  have hI : Calls Try.prog 28 #[.pointer (some ⟨p, 0, none⟩)] w2 fun e w' => e = .returned (.int .i64 1) ∧ w' = w2 := inflight_any hF
  have hT := tick_soon hF fa1_ok (by decide) 1004 (by decide) (by decide) (by rw [fa1_rto]; decide)
  clear hF ho hS H1 HB1
  have e0 : (Fl.new 1).next = 0 := rfl
  rw [e0]
  go_wp2_with (first | (go_at_call 28; refine hI.mono ?_; rintro e w3 ⟨rfl, rfl⟩) | (go_at_call 22; refine hT.mono ?_; rintro e w4 ⟨rfl, hb⟩; have H4 := hid (FlowAt.kept H2.out hb); have HB4 := hid (HB2.out.trans (hb.mono HB2.out.size)); clear hb hT))
  have hT2 := tick_fires H4.out fa1_ok (by decide) (by decide) (by decide) (by decide) (by decide) 1005 (by decide) (by decide) (by rw [fa1_rto]; decide)
  refine hT2.mono ?_
  rintro e w5 ⟨v, rfl, hrow, hF5, ho5⟩
  obtain ⟨a, cap, rfl, hv⟩ := own_view hrow
  obtain ⟨gg, rfl, _, _, _, c2, _, _⟩ := hv 0 (by decide)
  have c2' : w5.cell? ⟨gg, 2, none⟩ = some (.int .u64 9) := c2
  have hS5 : Calls Try.prog 23 #[.pointer (some ⟨p, 0, none⟩)] w5 fun e w' => e = .returned (.int .i64 1) ∧ w' = w5 := strikes_any hF5
  have hI5 : Calls Try.prog 28 #[.pointer (some ⟨p, 0, none⟩)] w5 fun e w' => e = .returned (.int .i64 0) ∧ w' = w5 := inflight_any hF5
  have HB5 := hid (Only.flow_below HB4.out ho5 HP.out.1 HP.out.2.1 HP.out.2.2)
  clear hrow hF5 ho5 hv c2 hT2 hI
  show _
  go_wp2_with (first | (go_at_call 23; refine hS5.mono ?_; rintro e w6 ⟨rfl, rfl⟩) | (go_at_call 28; refine hI5.mono ?_; rintro e w6 ⟨rfl, rfl⟩))
  go_ret
  exact ⟨rfl, HB5.out⟩
end Go.Proofs.Ytbkfmknjbdonlaa
