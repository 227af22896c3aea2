import Derived.Test.YtahkbklhngiloaaCr5
namespace Go.Proofs.Ytahkbklhngiloaa
open Go.RowKit Go.Maps
set_option maxRecDepth 100000

/-- Is nothing left of the stream? -/
def Ss.gone (s : Ss) : Bool := !s.op && decide (s.a.came - s.a.used = 0)
/-- The book without a stream that is gone. -/
def Bk.forget (B : Bk) (x : Ln) : Bk := if x.s.gone then { B with U := less B.U x.num } else B
set_option maxHeartbeats 1000000 in
theorem forget_any {w : World} {p b : Nat} {B : Bk} (h : BkAt w p b B) {x : Ln} (hx : x ∈ B.U) (k : x.s.a.Ok) (h0 : 0 ≤ x.num) (h1 : x.num ≤ 18446744073709551615) : Calls Try.prog 36 #[pt p 0, .int .u64 x.num, pt x.g 0] w fun e w' => e = .returned (.tuple #[]) ∧ BkAt w' p b (B.forget x) ∧ Fr (fun k => k = b) w w' := by
  have hG := gone_any h hx k
  have HH := hid2 h
  have HK := hid2 (key22 h0 h1)
  have c16 := h.row.cell 16 _ rfl
  unfold Bk.forget
  rw [show (!x.s.op && decide (x.s.a.came - x.s.a.used = 0)) = x.s.gone from rfl] at hG
  clear h hx k h0 h1
  cases hg : x.s.gone
  · rw [hg] at hG
    go_enter Try.func36, Try.ntmps36
    go_wp2_with (go_at_call 55; refine hG.mono ?_; rintro e w' ⟨rfl, q, rfl⟩)
    refine bodyPost_end (results_none Try.results36 _ _ _) rfl ?_
    exact ⟨rfl, HH.out.drewN q, (Fr.refl _ _).drewN q⟩
  · rw [hg] at hG
    go_enter Try.func36, Try.ntmps36
    go_wp2_with (first | (go_at_call 55; refine hG.mono ?_; rintro e w' ⟨rfl, q, rfl⟩) | (at_delete; refine wpList_delete_own _ rfl _ _ 44 22 rfl 81 law22 Try.underlying44 readP b B.U.length (UD B.U) rfl (HH.out.drewN q).map _ _ rfl HK.out ?_; intro w2 hown hturn; have HO := hid2 hown; have HT := hid2 hturn; clear hown hturn))
    refine bodyPost_end (results_none Try.results36 _ _ _) rfl ?_
    have hF : Fr (fun k => k = b) w w2 := ((Fr.refl _ _).drewN q).trans (T := fun k => k = b) (Fr.of_grown HT.out.grown (fun k e => .inl (by simpa using e.symm))) (fun x e => .inl e)
    exact ⟨rfl, (HH.out.drewN q).died HO.out HT.out.grown, hF⟩
/-- What a number's account has left. -/
theorem left_all {w : World} {p b : Nat} {B : Bk} (h : BkAt w p b B) (k : B.all.Ok) : Calls Try.prog 21 #[pt p 0, .int .u64 0] w fun e w' => e = .returned (.int .u64 (B.all.may - B.all.sent)) ∧ ∃ q, w' = w.drewN q := by
  have hA := accountOf_all h
  have hL := left_any h.acc k
  clear h k
  go_enter Try.func21, Try.ntmps21
  go_wp2_with (first | (go_at_call 37; refine hA.mono ?_; rintro e w' ⟨rfl, rfl⟩) | (go_at_call 45; refine hL.mono ?_; rintro e w' ⟨rfl, q, rfl⟩))
  go_ret
  exact ⟨rfl, q, rfl⟩
theorem left_some {w : World} {p b : Nat} {B : Bk} (h : BkAt w p b B) {id : Int} (h0 : 1 ≤ id) (h1 : id ≤ 18446744073709551615) {x : Ln} (hx : fnd B.U id = some x) (ho : x.s.op = true) (k : x.s.a.Ok) : Calls Try.prog 21 #[pt p 0, .int .u64 id] w fun e w' => e = .returned (.int .u64 (x.s.a.may - x.s.a.sent)) ∧ ∃ q, w' = w.drewN q := by
  have hA := accountOf_some h h0 h1 hx ho
  have hL := left_any (h.strm (fnd_some hx).1) k
  clear h k hx ho h0 h1
  go_enter Try.func21, Try.ntmps21
  go_wp2_with (first | (go_at_call 37; refine hA.mono ?_; rintro e w' ⟨rfl, rfl⟩) | (go_at_call 45; refine hL.mono ?_; rintro e w' ⟨rfl, q, rfl⟩))
  go_ret
  exact ⟨rfl, q, rfl⟩
theorem left_none {w : World} {p b : Nat} {B : Bk} (h : BkAt w p b B) {id : Int} (h0 : 1 ≤ id) (h1 : id ≤ 18446744073709551615) (hx : B.shut id) : Calls Try.prog 21 #[pt p 0, .int .u64 id] w fun e w' => e = .returned (.int .u64 0) ∧ ∃ q, w' = w.drewN q := by
  have hA := accountOf_none h h0 h1 hx
  clear h hx h0 h1
  go_enter Try.func21, Try.ntmps21
  go_wp2_with (go_at_call 37; refine hA.mono ?_; rintro e w' ⟨rfl, rfl⟩)
  go_ret
  exact ⟨rfl, 0, rfl⟩
/-- What may go out on a stream. -/
def Bk.room (B : Bk) (x : Ln) : Int := min (x.s.a.may - x.s.a.sent) (B.all.may - B.all.sent)
theorem room_some {w : World} {p b : Nat} {B : Bk} (h : BkAt w p b B) (ka : B.all.Ok) {id : Int} (h0 : 1 ≤ id) (h1 : id ≤ 18446744073709551615) {x : Ln} (hx : fnd B.U id = some x) (ho : x.s.op = true) (k : x.s.a.Ok) : Calls Try.prog 20 #[pt p 0, .int .u64 id] w fun e w' => e = .returned (.int .u64 (B.room x)) ∧ ∃ q, w' = w.drewN q := by
  have hL := left_some h h0 h1 hx ho k
  have hA := fun q => left_all (h.drewN q) ka
  have hz : ¬ id = 0 := by omega
  unfold Bk.room
  have k0 := k.s1
  have k1 := ka.s1
  have k2 := k.m
  have k3 := ka.m
  have k4 := k.s0
  have k5 := ka.s0
  clear h k hx ho h0 h1 ka
  go_enter Try.func20, Try.ntmps20
  go_wp2_with (first | (go_at_call 21; refine (hA q).mono ?_; rintro e w' ⟨rfl, q2, rfl⟩) | (go_at_call 21; refine hL.mono ?_; rintro e w' ⟨rfl, q, rfl⟩))
  go_ret
  exact ⟨rfl, q + q2, rfl⟩
theorem room_none {w : World} {p b : Nat} {B : Bk} (h : BkAt w p b B) (ka : B.all.Ok) {id : Int} (h0 : 1 ≤ id) (h1 : id ≤ 18446744073709551615) (hx : B.shut id) : Calls Try.prog 20 #[pt p 0, .int .u64 id] w fun e w' => e = .returned (.int .u64 0) ∧ ∃ q, w' = w.drewN q := by
  have hL := left_none h h0 h1 hx
  have hA := fun q => left_all (h.drewN q) ka
  have hz : ¬ id = 0 := by omega
  have k1 := ka.s1
  have k3 := ka.m
  have k5 := ka.s0
  have k6 : min 0 (B.all.may - B.all.sent) = 0 := by omega
  clear h hx h0 h1 ka
  go_enter Try.func20, Try.ntmps20
  go_wp2_with (first | (go_at_call 21; refine (hA q).mono ?_; rintro e w' ⟨rfl, q2, rfl⟩) | (go_at_call 21; refine hL.mono ?_; rintro e w' ⟨rfl, q, rfl⟩))
  go_ret
  exact ⟨rfl, q + q2, rfl⟩
/-- Bytes go out. -/
def Bk.spn (B : Bk) (x : Ln) (n : Int) : Bk := { B with all := { B.all with sent := B.all.sent + n }, U := upd B.U x.num { x.s with a := { x.s.a with sent := x.s.a.sent + n } } }
theorem spend_none {w : World} {p b : Nat} {B : Bk} (h : BkAt w p b B) {id n : Int} (h0 : 0 ≤ id) (h1 : id ≤ 18446744073709551615) (hx : B.shut id) : Calls Try.prog 19 #[pt p 0, .int .u64 id, .int .u64 n] w fun e w' => e = .returned (.int .i64 181) ∧ w' = w := by
  have hA := opened_none h h0 h1 hx
  clear h hx h0 h1
  go_enter Try.func19, Try.ntmps19
  go_wp2_with (go_at_call 35; refine hA.mono ?_; rintro e w' ⟨rfl, rfl⟩)
  go_ret
  exact ⟨rfl, rfl⟩
theorem spend_over {w : World} {p b : Nat} {B : Bk} (h : BkAt w p b B) (ka : B.all.Ok) {id n : Int} (h0 : 1 ≤ id) (h1 : id ≤ 18446744073709551615) {x : Ln} (hx : fnd B.U id = some x) (ho : x.s.op = true) (k : x.s.a.Ok) (hn : B.room x < n) : Calls Try.prog 19 #[pt p 0, .int .u64 id, .int .u64 n] w fun e w' => e = .returned (.int .i64 183) ∧ ∃ q, w' = w.drewN q := by
  have hA := opened_some h (by omega) h1 hx ho
  have hR := room_some h ka h0 h1 hx ho k
  clear h hx h0 h1 ho k ka
  generalize B.room x = R at *
  go_enter Try.func19, Try.ntmps19
  go_wp2_with (first | (go_at_call 35; refine hA.mono ?_; rintro e w' ⟨rfl, rfl⟩) | (go_at_call 20; refine hR.mono ?_; rintro e w' ⟨rfl, q, rfl⟩))
  go_ret
  exact ⟨rfl, q, rfl⟩
set_option maxHeartbeats 1000000 in
theorem spend_ok {w : World} {p b : Nat} {B : Bk} (h : BkAt w p b B) (ka : B.all.Ok) {id n : Int} (h0 : 1 ≤ id) (h1 : id ≤ 18446744073709551615) {x : Ln} (hx : fnd B.U id = some x) (ho : x.s.op = true) (k : x.s.a.Ok) (hn0 : 0 ≤ n) (hn : n ≤ B.room x) :
    Calls Try.prog 19 #[pt p 0, .int .u64 id, .int .u64 n] w fun e w' => e = .returned (.int .i64 0) ∧ BkAt w' p b (B.spn x n) ∧ Fr (fun k => Foot p b B k) w w' := by
  have hA := opened_some h (by omega) h1 hx ho
  have hR := room_some h ka h0 h1 hx ho k
  have hm : x ∈ B.U := (fnd_some hx).1
  have hr : n ≤ x.s.a.may - x.s.a.sent ∧ n ≤ B.all.may - B.all.sent := by unfold Bk.room at hn; omega
  have hS := fun q => spend_any ((h.drewN q).strm hm) k hn0 hr.1
  have H1 := fun q => (h.drewN q).turn hm 0 (.int .u64 (x.s.a.sent + n)) (s := { x.s with a := { x.s.a with sent := x.s.a.sent + n } }) rfl
  have hS2 := fun q => spend_any (H1 q).acc ka hn0 hr.2
  have H2 := hid2 (fun q => (H1 q).field 11 (.int .u64 (B.all.sent + n)) (B' := B.spn x n) rfl rfl)
  have HF := hid2 (fun q => (((Fr.refl (fun k => Foot p b B k) w).drewN q).setCell x.g 0 (.int .u64 (x.s.a.sent + n)) (.inl (.inr (.inr ⟨x, hm, rfl⟩)))).setCell p 11 (.int .u64 (B.all.sent + n)) (.inl (.inl rfl)))
  have HH := hid2 h
  clear H1 h hx h0 h1 ho k ka hm hr
  generalize B.room x = R at *
  go_enter Try.func19, Try.ntmps19
  go_wp2_with (first | (go_at_call 35; refine hA.mono ?_; rintro e w' ⟨rfl, rfl⟩) | (go_at_call 20; refine hR.mono ?_; rintro e w' ⟨rfl, q, rfl⟩) | (go_at_call 44; refine (hm1 q).mono ?_; rintro e w' ⟨rfl, rfl⟩) | (go_at_call 44; refine (hS q).mono ?_; rintro e w' ⟨rfl, rfl⟩; have hm1 := hS2; clear hS hS2))
  go_ret
  exact ⟨rfl, H2.out q, HF.out q⟩
end Go.Proofs.Ytahkbklhngiloaa
