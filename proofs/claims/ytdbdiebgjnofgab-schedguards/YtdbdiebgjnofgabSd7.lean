import Derived.Test.YtdbdiebgjnofgabSd6
namespace Go.Proofs.Ytdbdiebgjnofgab
open Go.RowKit Go.Maps Go.Sort
set_option maxRecDepth 100000

/-- A scheduler: where it lies, and its kind. -/
def NewAns (w : World) (I : Value) (e : Ending) (w' : World) : Prop := Below w.heap.size w w' ∧ ∃ s, e = .returned (.pointer (some ⟨s, 0, none⟩)) ∧ w.heap.size ≤ s ∧ Row w' s [I] 85
theorem mk0_any (w : World) : Calls Try.prog 30 #[] w fun e w' => e = .returned (.iface 75 (.agg #[])) ∧ w' = w := by
  go_enter Try.func30, Try.ntmps30
  go_wp2
  go_ret
  exact ⟨rfl, rfl⟩
theorem mk2_any (w : World) : Calls Try.prog 33 #[] w fun e w' => e = .returned (.iface 79 (.agg #[])) ∧ w' = w := by
  go_enter Try.func33, Try.ntmps33
  go_wp2
  go_ret
  exact ⟨rfl, rfl⟩
theorem mk3_any (w : World) : Calls Try.prog 34 #[] w fun e w' => e = .returned (.iface 80 (.agg #[])) ∧ w' = w := by
  go_enter Try.func34, Try.ntmps34
  go_wp2
  go_ret
  exact ⟨rfl, rfl⟩
set_option maxHeartbeats 1000000 in
theorem new0_any (w : World) (a1 a2 : Option Addr) (n1 c1 n2 c2 : Nat) : Calls Try.prog 6 #[.int .i64 0, .slice a1 n1 c1, .slice a2 n2 c2] w fun e w' => NewAns w (.iface 75 (.agg #[])) e w' := by
  go_enter Try.func6, Try.ntmps6
  go_wp2_with (go_at_call 30; refine (mk0_any _).mono ?_; rintro e w1 ⟨rfl, rfl⟩)
  go_ret
  exact ⟨((((Below.refl _ _).alloc (Nat.le_refl _) _).alloc (by simp) _).alloc (by simp; omega) _).alloc (by simp; omega) _, _, rfl, by omega, Row.new' _ _ _ _ _ (by simp) rfl⟩
set_option maxHeartbeats 1000000 in
theorem new2_any (w : World) (a1 a2 : Option Addr) (n1 c1 n2 c2 : Nat) : Calls Try.prog 6 #[.int .i64 2, .slice a1 n1 c1, .slice a2 n2 c2] w fun e w' => NewAns w (.iface 79 (.agg #[])) e w' := by
  go_enter Try.func6, Try.ntmps6
  go_wp2_with (go_at_call 33; refine (mk2_any _).mono ?_; rintro e w1 ⟨rfl, rfl⟩)
  go_ret
  exact ⟨((((Below.refl _ _).alloc (Nat.le_refl _) _).alloc (by simp) _).alloc (by simp; omega) _).alloc (by simp; omega) _, _, rfl, by omega, Row.new' _ _ _ _ _ (by simp) rfl⟩
set_option maxHeartbeats 1000000 in
theorem new3_any (w : World) (a1 a2 : Option Addr) (n1 c1 n2 c2 : Nat) : Calls Try.prog 6 #[.int .i64 3, .slice a1 n1 c1, .slice a2 n2 c2] w fun e w' => NewAns w (.iface 80 (.agg #[])) e w' := by
  go_enter Try.func6, Try.ntmps6
  go_wp2_with (go_at_call 34; refine (mk3_any _).mono ?_; rintro e w1 ⟨rfl, rfl⟩)
  go_ret
  exact ⟨((((Below.refl _ _).alloc (Nat.le_refl _) _).alloc (by simp) _).alloc (by simp; omega) _).alloc (by simp; omega) _, _, rfl, by omega, Row.new' _ _ _ _ _ (by simp) rfl⟩
def pcells (ps : List Pk) : List Value := ps.flatMap Pk.cells
theorem pcells_cons (p : Pk) (ps : List Pk) : pcells (p :: ps) = p.cells ++ pcells ps := by simp [pcells]
theorem pcells_len : ∀ ps : List Pk, (pcells ps).length = ps.length * 3
  | [] => rfl
  | p :: ps => by rw [pcells_cons, List.length_append, pcells_len ps]; simp; omega
/-- The scheduler that says what it was told: what it has still. -/
structure RpAt (w : World) (r : Nat) (B : Nat) (ps : List Pk) (a : Option Addr) (c : Nat) : Prop where
  row : Row w r [.slice a ps.length c] 116
  at_ : SlAt w 3 (.slice a ps.length c) ps.length (pcells ps)
  le : ps.length ≤ c
  ne : ∀ g, (Value.slice a ps.length c).ownBlock = some g → g ≠ r ∧ B ≤ g
theorem own_le {w : World} {base : Nat} {e : TypeId} {size : Nat} {a : Option Addr} {c n : Nat} {xs : List Value} (h : w.ownsRow base e size (.slice a n c) n xs) : n ≤ c := by
  rcases h.2 with ⟨h1, rfl⟩ | ⟨g', cap, cur, h1, _, _, h2, _⟩
  · exact Nat.zero_le _
  · cases h1; exact h2
theorem own_ge' {w : World} {base : Nat} {e : TypeId} {size : Nat} {v : Value} {n : Nat} {xs : List Value} (h : w.ownsRow base e size v n xs) {g : Nat} (hg : v.ownBlock = some g) : base ≤ g ∧ g < w.heap.size := by
  rcases h.2 with ⟨rfl, _⟩ | ⟨g', cap, cur, rfl, h1, h2, _⟩
  · simp [Value.ownBlock] at hg
  · simp [Value.ownBlock] at hg; subst hg; exact ⟨h1, (Array.getElem?_eq_some_iff.1 h2).1⟩
def MkAns (w : World) (Q : Nat → World → Prop) (T : Nat) (e : Ending) (w' : World) : Prop := Below w.heap.size w w' ∧ ∃ r, e = .returned (.iface T (.pointer (some ⟨r, 0, none⟩))) ∧ w.heap.size ≤ r ∧ Q r w'
theorem newRp_any {w : World} {v : Value} {ps : List Pk} (hs : SrcAt w 3 v ps.length (pcells ps)) (hl : ps.length * 24 ≤ 140737488355328) :
    Calls Try.prog 36 #[v] w fun e w' => ∃ r a' c', e = .returned (.pointer (some ⟨r, 0, none⟩)) ∧ w.heap.size ≤ r ∧ RpAt w' r w.heap.size ps a' c' ∧ Below w.heap.size w w' := by
  have HC := hid (cloneP_any hs hl)
  have H1 := hid hs.1
  clear hs
  go_enter Try.func36, Try.ntmps36
  go_wp2_with (go_at_call 60; refine HC.out.mono ?_; rintro e w1 ⟨a', c', rfl, ho, hb⟩; have HO := hid ho; have HB := hid hb; clear ho hb)
  go_ret
  have hb2 : Below w1.heap.size w1 (w1.alloc (.cells #[.slice a' ps.length c'] 116)) := (Below.refl _ _).alloc (Nat.le_refl _) _
  exact ⟨_, _, _, rfl, HB.out.size, ⟨Row.new' _ _ _ _ _ rfl rfl, (slAt_own HO.out H1.out).kept hb2, own_le HO.out, fun g hg => by have := own_ge' HO.out hg; exact ⟨by omega, this.1⟩⟩, HB.out.alloc HB.out.size _⟩
theorem mk4_any {w : World} {a2 : Option Addr} {c2 c : Nat} {ps : List Pk} (hc : w.cell? ⟨c, 0, none⟩ = some (.slice a2 ps.length c2)) (hs : SrcAt w 3 (.slice a2 ps.length c2) ps.length (pcells ps)) (hl : ps.length * 24 ≤ 140737488355328) :
    Calls Try.prog 35 #[.pointer (some ⟨c, 0, none⟩)] w fun e w' => MkAns w (fun r w' => ∃ a' c', RpAt w' r w.heap.size ps a' c') 81 e w' := by
  have HC := hid (newRp_any hs hl)
  clear hs
  go_enter Try.func35, Try.ntmps35
  go_wp2_with (go_at_call 36; refine HC.out.mono ?_; rintro e w1 ⟨r, a', c', rfl, hr, hp, hb⟩; have HR := hid hr; have HP := hid hp; have HB := hid hb; clear hr hp hb)
  go_ret
  exact ⟨HB.out, r, rfl, HR.out, a', c', HP.out⟩
theorem RpAt.kept {w w' : World} {r B : Nat} {ps : List Pk} {a : Option Addr} {c : Nat} (h : RpAt w r B ps a c) (hb : Below w.heap.size w w') : RpAt w' r B ps a c := ⟨h.row.kept hb h.row.lt, h.at_.kept hb, h.le, h.ne⟩
theorem RpAt.base {w : World} {r B B' : Nat} {ps : List Pk} {a : Option Addr} {c : Nat} (h : RpAt w r B ps a c) (hB : B' ≤ B) : RpAt w r B' ps a c := ⟨h.row, h.at_, h.le, fun g hg => ⟨(h.ne g hg).1, Nat.le_trans hB (h.ne g hg).2⟩⟩
/-- What New of a kind with memory of its own answers. -/
def NewAns2 (w : World) (Q : Nat → World → Prop) (T : Nat) (e : Ending) (w' : World) : Prop := Below w.heap.size w w' ∧ ∃ s r, e = .returned (.pointer (some ⟨s, 0, none⟩)) ∧ w.heap.size ≤ s ∧ Row w' s [.iface T (.pointer (some ⟨r, 0, none⟩))] 85 ∧ w.heap.size ≤ r ∧ r ≠ s ∧ Q r w'
set_option maxHeartbeats 1000000 in
theorem new4_any {w : World} {a2 : Option Addr} {c2 : Nat} {ps : List Pk} (hs : SrcAt w 3 (.slice a2 ps.length c2) ps.length (pcells ps)) (hl : ps.length * 24 ≤ 140737488355328) (a1 : Option Addr) (n1 c1 : Nat) : Calls Try.prog 6 #[.int .i64 4, .slice a1 n1 c1, .slice a2 ps.length c2] w fun e w' => NewAns2 w (fun r w' => ∃ a' c', RpAt w' r w.heap.size ps a' c') 81 e w' := by
  have HS := hid hs
  have eg : ∀ args w, (callFunc 35 args).run Try.prog w = .ok (.enter 35 args) w := enters_of Try.func35 (by kernel_rfl) rfl
  clear hs
  go_enter Try.func6, Try.ntmps6
  go_upto_region 4 with fail
  refine wp_world fun W HW => ?_
  have HB0 : Hid (Below w.heap.size w W) := by show Below _ _ _; rw [HW.out]; exact (((Below.refl _ _).alloc (Nat.le_refl _) _).alloc (by simp) _).alloc (by simp; omega) _
  have c0 : W.cell? ⟨w.heap.size + 1, 0, none⟩ = some (.slice a2 ps.length c2) := by rw [HW.out]; exact (((Row.new' (w.alloc (.cells #[.slice a1 n1 c1] 24)) _ [.slice a2 ps.length c2] _ _ (by simp) rfl).alloc _).cell 0 _ rfl)
  have c5 : W.cell? ⟨w.heap.size + 1 + 1, 4, none⟩ = some (.func (.func 35) #[] #[.pointer (some ⟨w.heap.size + 1, 0, none⟩)]) := by rw [HW.out]; exact ((Row.new' ((w.alloc (.cells #[.slice a1 n1 c1] 24)).alloc (.cells #[.slice a2 ps.length c2] 42)) _ [_, _, _, _, _] _ _ (by simp) rfl).cell 4 _ rfl)
  have HM := hid (mk4_any c0 (HS.out.kept HB0.out) hl)
  clear HW c0
  go_wp2_with (go_at_fn 35; refine HM.out.mono ?_; rintro e w1 ⟨hb, r, rfl, hr, a', c', hp⟩; have HB := hid hb; have HR := hid hr; have HP := hid hp; clear hb hr hp)
  go_ret
  have hb1 : Below w.heap.size w w1 := HB0.out.trans (HB.out.mono HB0.out.size)
  exact ⟨hb1.alloc hb1.size _, _, r, rfl, hb1.size, Row.new' _ _ _ _ _ rfl rfl, Nat.le_trans HB0.out.size HR.out, Nat.ne_of_lt HP.out.row.lt, a', c', (HP.out.kept ((Below.refl _ _).alloc (Nat.le_refl _) _)).base HB0.out.size⟩
end Go.Proofs.Ytdbdiebgjnofgab
