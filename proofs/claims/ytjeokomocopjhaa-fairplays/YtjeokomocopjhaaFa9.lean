import Derived.Test.YtjeokomocopjhaaFa8
namespace Go.Proofs.Ytjeokomocopjhaa
open Go.RowKit Go.Maps
set_option maxRecDepth 100000

theorem eq58 (w : World) (g : Nat) : (binOp BinOp.eql 58 (pt g 0) (.pointer none)).run Try.prog w = .ok (.bool false) w := by kernel_rfl
/-- What More answers of a stream that is there. -/
def Ss.moreE (s : Ss) (n : Int) : Int := if n < 1 ∨ 1099511627776 - s.wt < n then 193 else 0
set_option maxHeartbeats 2000000 in
theorem more_none {w : World} {p b : Nat} {V : Nat → Value} {F : Fs} (h : FaAt w p b V F) {id n : Int} (h0 : 0 ≤ id) (h1 : id ≤ 18446744073709551615) (hf : fnd F.U id = none) :
    Calls Try.prog 10 #[pt p 0, .int .u64 id, .int .i64 n] w fun e w' => e = .returned (.int .i64 190) ∧ w' = w := by
  have hL := look_any h.map h0 h1
  have c1 := h.row.cell 1 _ rfl
  rw [hf] at hL
  simp only [Option.map_none, ptrV] at hL
  clear h hf
  go_enter Try.func10, Try.ntmps10
  go_wp2_with fail
  go_ret
  exact ⟨rfl, rfl⟩
set_option maxHeartbeats 2000000 in
theorem more_no {w : World} {p b : Nat} {V : Nat → Value} {F : Fs} (h : FaAt w p b V F) {id n : Int} (h0 : 0 ≤ id) (h1 : id ≤ 18446744073709551615) {x : Ln} (hf : fnd F.U id = some x) (hw0 : 0 ≤ x.s.wt) (hw1 : x.s.wt ≤ 1099511627776) (hE : x.s.moreE n ≠ 0) :
    Calls Try.prog 10 #[pt p 0, .int .u64 id, .int .i64 n] w fun e w' => e = .returned (.int .i64 193) ∧ w' = w := by
  have hL := look_any h.map h0 h1
  have c1 := h.row.cell 1 _ rfl
  have x3 := (h.rows x (fnd_some hf).1).cell 3 _ rfl
  have hn := eq58 w x.g
  rw [hf] at hL
  simp only [Option.map_some, ptrV] at hL
  clear h hf
  unfold Ss.moreE at hE
  by_cases hb : n < 1 ∨ 1099511627776 - x.s.wt < n
  · clear hE
    rcases hb with hb | hb
    · go_enter Try.func10, Try.ntmps10
      go_wp2_with fail
      go_ret
      exact ⟨rfl, rfl⟩
    · have hb' : ¬ n < 1 := by omega
      go_enter Try.func10, Try.ntmps10
      go_wp2_with fail
      go_ret
      exact ⟨rfl, rfl⟩
  · rw [if_neg hb] at hE
    exact absurd rfl hE
def Ss.plus (s : Ss) (n : Int) : Ss := { s with wt := s.wt + n }
/-- More bytes of a stream wait. -/
def Fs.more (F : Fs) (x : Ln) (n : Int) : Fs := { F with U := upd F.U x.num (x.s.plus n), R := if x.s.wt = 0 then upR F.R x.s.cls (F.R x.s.cls ++ [x.num]) else F.R }
set_option maxHeartbeats 2000000 in
theorem more_ok {w : World} {p b : Nat} {V : Nat → Value} {F : Fs} (h : FaAt w p b V F) {id n : Int} (h0 : 0 ≤ id) (h1 : id ≤ 18446744073709551615) {x : Ln} (hf : fnd F.U id = some x) (hw0 : 0 ≤ x.s.wt) (hw1 : x.s.wt ≤ 1099511627776) (hc : x.s.cls < 8) (hl : (F.R x.s.cls).length ≤ 1125899906842) (hE : x.s.moreE n = 0) :
    Calls Try.prog 10 #[pt p 0, .int .u64 id, .int .i64 n] w fun e w' => e = .returned (.int .i64 0) ∧ ∃ V', Mv p b V F w V' (F.more x n) w' := by
  have hL := look_any h.map h0 h1
  have hx := (fnd_some hf).1
  have c1 := h.row.cell 1 _ rfl
  have x3 := (h.rows x hx).cell 3 _ rfl
  have y3 := (h.rows x hx).frozen 3
  have hn := eq58 w x.g
  rw [hf] at hL
  simp only [Option.map_some, ptrV] at hL
  have hJ := join_any h hx hc hl
  unfold Ss.moreE at hE
  by_cases hb : n < 1 ∨ 1099511627776 - x.s.wt < n
  · rw [if_pos hb] at hE; exact absurd hE (by decide)
  have hb1 : ¬ n < 1 := by omega
  have hb2 : ¬ 1099511627776 - x.s.wt < n := by omega
  have hsum : wrap64 (x.s.wt + n) = x.s.wt + n := by unfold wrap64; omega
  have HX := hid2 hx
  have HH := hid2 h
  unfold Fs.more
  clear hE hf hb h hx hl
  by_cases hz : x.s.wt = 0
  · rw [if_pos hz]
    have HZ := hid2 hz
    rw [hz] at x3 hb2 hsum
    go_enter Try.func10, Try.ntmps10
    go_upto_region 8 with (go_at_call 20; refine hJ.mono ?_; rintro e w2 ⟨rfl, V2, hM2⟩; have HM2 := hid2 hM2; clear hM2)
    have z3 := (HM2.out.at_.rows x HX.out).cell 3 _ rfl
    have t3 := (HM2.out.at_.rows x HX.out).frozen 3
    have HT := hid2 (HM2.out.trans (HM2.out.at_.turn HX.out 3 (.int .i64 (x.s.wt + n)) (s := x.s.plus n) rfl))
    clear x3 y3 hJ
    rw [HZ.out] at z3
    rw [HZ.out, Int.zero_add] at HT
    go_wp2_with fail
    go_ret
    refine ⟨rfl, V2, ?_⟩
    first | exact HT.out | (rw [hsum]; exact HT.out)
  · rw [if_neg hz]
    have HT := hid2 (HH.out.turn HX.out 3 (.int .i64 (x.s.wt + n)) (s := x.s.plus n) rfl)
    go_enter Try.func10, Try.ntmps10
    go_wp2_with fail
    go_ret
    refine ⟨rfl, V, ?_⟩
    first | exact HT.out | (rw [hsum]; exact HT.out)
end Go.Proofs.Ytjeokomocopjhaa
