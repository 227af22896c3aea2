import Derived.Test.YtahkbklhngiloaaCr9
namespace Go.Proofs.Ytahkbklhngiloaa
open Go.RowKit Go.Maps
set_option maxRecDepth 100000

theorem close_none {w : World} {p b : Nat} {B : Bk} (h : BkAt w p b B) {id : Int} (h0 : 0 ≤ id) (h1 : id ≤ 18446744073709551615) (hx : B.shut id) : Calls Try.prog 13 #[pt p 0, .int .u64 id] w fun e w' => e = .returned (.int .i64 181) ∧ w' = w := by
  have hA := opened_none h h0 h1 hx
  clear h hx h0 h1
  go_enter Try.func13, Try.ntmps13
  go_wp2_with (go_at_call 35; refine hA.mono ?_; rintro e w' ⟨rfl, rfl⟩)
  go_ret
  exact ⟨rfl, rfl⟩
def Ss.shut (s : Ss) : Ss := { s with op := false }
def Ln.shut (x : Ln) : Ln := { x with s := x.s.shut }
def Bk.cls0 (B : Bk) (x : Ln) : Bk := { B with o0 := if sideN x.num = 0 then B.o0 - 1 else B.o0, o1 := if sideN x.num = 0 then B.o1 else B.o1 - 1, U := upd B.U x.num x.s.shut }
/-- The book behind a Close. -/
def Bk.cls (B : Bk) (x : Ln) : Bk := (B.cls0 x).forget x.shut
set_option maxHeartbeats 2000000 in
theorem close_ok {w : World} {p b : Nat} {B : Bk} (h : BkAt w p b B) (K : B.Ok) {x : Ln} (hx : fnd B.U x.num = some x) (ho : x.s.op = true) (h0 : 0 ≤ x.num) (h1 : x.num ≤ 18446744073709551615) :
    Calls Try.prog 13 #[pt p 0, .int .u64 x.num] w fun e w' => e = .returned (.int .i64 0) ∧ BkAt w' p b (B.cls x) ∧ Fr (fun k => Foot p b B k) w w' := by
  have hA := opened_some h h0 h1 hx ho
  have hm : x ∈ B.U := (fnd_some hx).1
  have hS := fun w => sideOf_any w x.num
  have H1 := h.turn hm 5 (.bool false) (s := x.s.shut) rfl
  have F1 := (Fr.refl (fun k => Foot p b B k) w).setCell x.g 5 (.bool false) (.inl (.inr (.inr ⟨x, hm, rfl⟩)))
  have c5 := (h.rows x hm).cell 5 _ rfl
  have f5 := (h.rows x hm).frozen 5
  have HK := hid2 (K.ss x hm).1
  have HM := hid2 hm
  have HN := hid2 (And.intro h0 h1)
  have HH1 := hid2 H1
  have HF1 := hid2 F1
  have hw1 : IntKind.i64.wrap 1 = 1 := by decide
  rcases sideN_cases x.num with e | e
  · have ho0 : 0 ≤ B.o0 := by rw [K.o0.1]; omega
    have ho1 := K.o0.2
    have ho2 := K.k1.s1
    have hwo : IntKind.i64.wrap (B.o0 - 1) = B.o0 - 1 := by rw [IntKind.wrap_i64]; omega
    have HE := hid2 e
    simp only [e] at hS
    have c9 := H1.row.cell 9 _ rfl
    have f9 := H1.row.frozen 9
    clear e K h hx ho h0 h1 hm H1 F1
    go_enter Try.func13, Try.ntmps13
    go_upto_region 5 with (go_at_call 35; refine hA.mono ?_; rintro e w' ⟨rfl, rfl⟩)
    refine wp_world ?_
    intro w1 hw1'
    rw [← hw1'.out] at HH1 HF1 c9 f9
    clear hw1' c5 f5
    go_region_with (go_at_call 33; refine (hS _).mono ?_; rintro e w'' ⟨rfl, rfl⟩)
    go_upto_region 6 with fail
    refine wp_world ?_
    intro w2 hw2
    have H2 : BkAt w2 p b (B.cls0 x) := by
      rw [hw2.out]
      refine (HH1.out.field 9 (.int .i64 (B.o0 - 1)) (B' := B.cls0 x) ?_ rfl).drewN 1
      unfold Bk.cells Bk.cls0
      simp only [HE.out]
      rfl
    have F2 : Fr (fun k => Foot p b B k) w' w2 := by rw [hw2.out]; exact (HF1.out.setCell p 9 _ (.inl (.inl rfl))).drewN 1
    have hFg := forget_any H2 (x := x.shut) (mem_use HM.out _) HK.out HN.out.1 HN.out.2
    have HF2 := hid2 F2
    clear H2 F2 hw2 HH1 HF1 c9 f9 hwo
    go_wp2_with (go_at_call 36; refine hFg.mono ?_; rintro e w3 ⟨rfl, h3, f3⟩; have HH3 := hid2 h3; have HF3 := hid2 f3; clear h3 f3)
    go_ret
    exact ⟨rfl, HH3.out, HF2.out.trans HF3.out (fun k e => .inl (.inr (.inl e)))⟩
  · have ho0 : 0 ≤ B.o1 := by rw [K.o1.1]; omega
    have ho1 := K.o1.2
    have ho2 := K.k0.s1
    have hwo : IntKind.i64.wrap (B.o1 - 1) = B.o1 - 1 := by rw [IntKind.wrap_i64]; omega
    have HE := hid2 e
    simp only [e] at hS
    have c9 := H1.row.cell 10 _ rfl
    have f9 := H1.row.frozen 10
    clear e K h hx ho h0 h1 hm H1 F1
    go_enter Try.func13, Try.ntmps13
    go_upto_region 5 with (go_at_call 35; refine hA.mono ?_; rintro e w' ⟨rfl, rfl⟩)
    refine wp_world ?_
    intro w1 hw1'
    rw [← hw1'.out] at HH1 HF1 c9 f9
    clear hw1' c5 f5
    go_region_with (go_at_call 33; refine (hS _).mono ?_; rintro e w'' ⟨rfl, rfl⟩)
    go_upto_region 6 with fail
    refine wp_world ?_
    intro w2 hw2
    have H2 : BkAt w2 p b (B.cls0 x) := by
      rw [hw2.out]
      refine (HH1.out.field 10 (.int .i64 (B.o1 - 1)) (B' := B.cls0 x) ?_ rfl).drewN 1
      unfold Bk.cells Bk.cls0
      simp only [HE.out]
      rfl
    have F2 : Fr (fun k => Foot p b B k) w' w2 := by rw [hw2.out]; exact (HF1.out.setCell p 10 _ (.inl (.inl rfl))).drewN 1
    have hFg := forget_any H2 (x := x.shut) (mem_use HM.out _) HK.out HN.out.1 HN.out.2
    have HF2 := hid2 F2
    clear H2 F2 hw2 HH1 HF1 c9 f9 hwo
    go_wp2_with (go_at_call 36; refine hFg.mono ?_; rintro e w3 ⟨rfl, h3, f3⟩; have HH3 := hid2 h3; have HF3 := hid2 f3; clear h3 f3)
    go_ret
    exact ⟨rfl, HH3.out, HF2.out.trans HF3.out (fun k e => .inl (.inr (.inl e)))⟩
end Go.Proofs.Ytahkbklhngiloaa
