import Derived.Test.YtjeokomocopjhaaFa5
import Derived.Test.YtjeokomocopjhaaFa6
namespace Go.Proofs.Ytjeokomocopjhaa
open Go.RowKit Go.Maps
set_option maxRecDepth 100000

theorem upR_up {α : Type} (R : Nat → α) (c : Nat) (u v : α) : upR (upR R c u) c v = upR R c v := by
  funext k
  unfold upR
  split <;> rfl
theorem mem_upd_self {U : List Ln} {x : Ln} (hx : x ∈ U) (s : Ss) : ({ x with s := s } : Ln) ∈ upd U x.num s := mem_upd.2 ⟨x, hx, by rw [if_pos rfl]⟩
theorem upd_upd (U : List Ln) (n : Int) (s t : Ss) : upd (upd U n s) n t = upd U n t := by
  unfold upd
  rw [List.map_map]
  apply List.map_congr_left
  intro x _
  show (if (if x.num = n then ({ x with s := s } : Ln) else x).num = n then _ else _) = _
  by_cases e : x.num = n
  · simp [e]
  · simp [e]
/-- A stream's turn is over. -/
def Ss.over (s : Ss) : Ss := { s with cr := 0 }
def Fs.over (F : Fs) (x : Ln) (A B : List Int) : Fs := { F with U := upd F.U x.num x.s.over, R := upR F.R x.s.cls (if 0 < x.s.wt then A ++ B ++ [x.num] else A ++ B) }
set_option maxHeartbeats 2000000 in
theorem endTurn_any {w : World} {p b : Nat} {V : Nat → Value} {F : Fs} (h : FaAt w p b V F) {x : Ln} (hx : x ∈ F.U) (hc : x.s.cls < 8) (hl : (F.R x.s.cls).length ≤ 1125899906842) {A B : List Int} (hR : F.R x.s.cls = A ++ x.num :: B) (hA : x.num ∉ A) :
    Calls Try.prog 22 #[pt p 0, pt x.g 0] w fun e w' => e = .returned (.tuple #[]) ∧ ∃ V', Mv p b V F w V' (F.over x A B) w' := by
  have x4 := (h.rows x hx).cell 4 _ rfl
  have y4 := (h.rows x hx).frozen 4
  have M1 := h.turn hx 4 (.int .i64 0) (s := x.s.over) rfl
  have hx1 := mem_upd_self hx x.s.over
  have HL := leave_hit (x := { x with s := x.s.over }) M1.at_ (M1.at_.rows _ hx1) hc hl hR hA
  have hl2 : (A ++ B).length ≤ 1125899906842 := by rw [hR] at hl; simp at hl ⊢; omega
  have HJ : Hid (∀ W V', FaAt W p b V' { F with U := upd F.U x.num x.s.over, R := upR F.R x.s.cls (A ++ B) } → Calls Try.prog 20 #[pt p 0, pt x.g 0] W fun e w' => e = .returned (.tuple #[]) ∧ ∃ V'', Mv p b V' { F with U := upd F.U x.num x.s.over, R := upR F.R x.s.cls (A ++ B) } W V'' { F with U := upd F.U x.num x.s.over, R := upR F.R x.s.cls (A ++ B ++ [x.num]) } w') := fun W V' hW => by
    have := join_any (x := { x with s := x.s.over }) hW hx1 hc (by show (upR F.R x.s.cls (A ++ B) x.s.cls).length ≤ _; rw [upR_same]; exact hl2)
    refine this.mono ?_
    rintro e w' ⟨rfl, V'', hM⟩
    refine ⟨rfl, V'', ?_⟩
    have e1 : upR (upR F.R x.s.cls (A ++ B)) x.s.cls (upR F.R x.s.cls (A ++ B) x.s.cls ++ [x.num]) = upR F.R x.s.cls (A ++ B ++ [x.num]) := by rw [upR_same, upR_up]
    rw [← e1]
    exact hM
  have HM1 := hid2 M1
  have HX1 := hid2 hx1
  have HLL := hid2 HL
  clear h hx hc hl hR hA M1 hx1 HL hl2
  unfold Fs.over
  by_cases hw : 0 < x.s.wt
  · rw [if_pos hw]
    go_enter Try.func22, Try.ntmps22
    go_upto_region 2 with (go_at_call 23; refine HLL.out.mono ?_; rintro e w2 ⟨rfl, V2, hM2⟩; have HM2 := hid2 (HM1.out.trans hM2); clear hM2)
    have z3 := (HM2.out.at_.rows _ HX1.out).cell 3 _ rfl
    have HJ2 := hid2 (HJ.out _ _ HM2.out.at_)
    change w2.cell? ⟨x.g, 3, none⟩ = some (.int .i64 x.s.wt) at z3
    go_wp2_with (go_at_call 20; refine HJ2.out.mono ?_; rintro e w3 ⟨rfl, V3, hM3⟩; have HM3 := hid2 (HM2.out.trans hM3); clear hM3)
    refine bodyPost_end (results_none Try.results22 _ _ _) rfl ?_
    exact ⟨rfl, V3, HM3.out⟩
  · rw [if_neg hw]
    go_enter Try.func22, Try.ntmps22
    go_upto_region 2 with (go_at_call 23; refine HLL.out.mono ?_; rintro e w2 ⟨rfl, V2, hM2⟩; have HM2 := hid2 (HM1.out.trans hM2); clear hM2)
    have z3 := (HM2.out.at_.rows _ HX1.out).cell 3 _ rfl
    change w2.cell? ⟨x.g, 3, none⟩ = some (.int .i64 x.s.wt) at z3
    go_wp2_with fail
    refine bodyPost_end (results_none Try.results22 _ _ _) rfl ?_
    exact ⟨rfl, V2, HM2.out⟩
end Go.Proofs.Ytjeokomocopjhaa
