import Derived.Test.YtkcoabjeaoigdaaAcked2
import Derived.Test.YtkcoabjeaoigdaaNew
import Derived.Test.YtkcoabjeaoigdaaLoss
namespace Go.Proofs.Ytkcoabjeaoigdaa
open Go.RowKit
set_option maxRecDepth 100000

/-- One call of a script. -/
structure OpV where
  kind : Int
  sec : Bool
  path : Int
  n : Int
  on : Bool
  ms : Int
def OpV.cells (o : OpV) : List Value := [.int .i64 o.kind, .bool o.sec, .int .i64 o.path, .int .i64 o.n, .bool o.on, .int .u64 o.ms]
structure OpV.Ok (o : OpV) : Prop where
  n1 : o.n ≤ 9223372036854775807
  m0 : 0 ≤ o.ms
def actD (D : Nat → Ln) (n : Nat) (o : OpV) : Nat → Ln :=
  if o.kind = 1 then takeD D n o.path o.on else if o.kind = 2 then rttD D n o.path o.ms else if o.kind = 3 then ackedD D n o.path o.n else if o.kind = 4 then loseD D n o.path false else if o.kind = 5 then loseD D n o.path true else D
set_option maxHeartbeats 1000000 in
theorem act_any {w : World} {g n : Nat} {D : Nat → Ln} (h : GAt w g n D) {o : OpV} (ok : o.Ok) :
    Calls Try.prog 16 #[.pointer (some ⟨g, 0, none⟩), .agg #[.int .i64 o.kind, .bool o.sec, .int .i64 o.path, .int .i64 o.n, .bool o.on, .int .u64 o.ms]] w fun e w' => e = .returned (.tuple #[]) ∧ GAt w' g n (actD D n o) ∧ Only [g] w w' := by
  obtain ⟨kd, sec, p, F, on, ms⟩ := o
  simp only
  obtain ⟨hF, _⟩ := ok
  simp only at hF
  have HR := hid (Row.new w [.int .i64 kd, .bool sec, .int .i64 p, .int .i64 F, .bool on, .int .u64 ms] 36)
  have x0 := HR.out.cell 0 _ rfl
  have x2 := HR.out.cell 2 _ rfl
  have x3 := HR.out.cell 3 _ rfl
  have x4 := HR.out.cell 4 _ rfl
  have x5 := HR.out.cell 5 _ rfl
  have HB : Hid (Below w.heap.size w (w.alloc (.cells #[.int .i64 kd, .bool sec, .int .i64 p, .int .i64 F, .bool on, .int .u64 ms] 36))) := below_grow (Below.refl _ _) _
  have HG := hid (h.kept HB.out)
  have HH := hid h
  have HFF := hid hF
  clear h hF HR
  have HOT : ∀ w' : World, Only [g] (w.alloc (.cells #[.int .i64 kd, .bool sec, .int .i64 p, .int .i64 F, .bool on, .int .u64 ms] 36)) w' → Only [g] w w' := fun _ h => (Only.of_below HB.out (Nat.le_refl _)).trans h (fun x hx => .inl hx)
  have HOTH := hid HOT
  clear HOT
  by_cases k1 : kd = 1
  · subst k1
    have HA := hid (take_any HG.out p on)
    go_enter Try.func16, Try.ntmps16
    go_wp2_with (go_at_call 10; refine HA.out.mono ?_; rintro e w2 ⟨rfl, h1, h2⟩; have H1 := hid h1; have H2 := hid h2; clear h1 h2 x0 x2 x3 x4 x5)
    refine bodyPost_end (results_none Try.results16 _ _ _) rfl ?_
    exact ⟨rfl, H1.out, HOTH.out _ H2.out⟩
  · by_cases k2 : kd = 2
    · subst k2
      have HA := hid (rtt_any HG.out p ms)
      go_enter Try.func16, Try.ntmps16
      go_wp2_with (go_at_call 11; refine HA.out.mono ?_; rintro e w2 ⟨rfl, h1, h2⟩; have H1 := hid h1; have H2 := hid h2; clear h1 h2 x0 x2 x3 x4 x5)
      refine bodyPost_end (results_none Try.results16 _ _ _) rfl ?_
      exact ⟨rfl, H1.out, HOTH.out _ H2.out⟩
    · by_cases k3 : kd = 3
      · subst k3
        have HA := hid (acked_any HG.out p HFF.out)
        go_enter Try.func16, Try.ntmps16
        go_wp2_with (go_at_call 14; refine HA.out.mono ?_; rintro e w2 ⟨rfl, h1, h2⟩; have H1 := hid h1; have H2 := hid h2; clear h1 h2 x0 x2 x3 x4 x5)
        refine bodyPost_end (results_none Try.results16 _ _ _) rfl ?_
        exact ⟨rfl, H1.out, HOTH.out _ H2.out⟩
      · by_cases k4 : kd = 4
        · subst k4
          have HA := hid (cut_any HG.out p)
          go_enter Try.func16, Try.ntmps16
          go_wp2_with (go_at_call 12; refine HA.out.mono ?_; rintro e w2 ⟨rfl, h1, h2⟩; have H1 := hid h1; have H2 := hid h2; clear h1 h2 x0 x2 x3 x4 x5)
          refine bodyPost_end (results_none Try.results16 _ _ _) rfl ?_
          exact ⟨rfl, H1.out, HOTH.out _ H2.out⟩
        · by_cases k5 : kd = 5
          · subst k5
            have HA := hid (timeout_any HG.out p)
            go_enter Try.func16, Try.ntmps16
            go_wp2_with (go_at_call 23; refine HA.out.mono ?_; rintro e w2 ⟨rfl, h1, h2⟩; have H1 := hid h1; have H2 := hid h2; clear h1 h2 x0 x2 x3 x4 x5)
            refine bodyPost_end (results_none Try.results16 _ _ _) rfl ?_
            exact ⟨rfl, H1.out, HOTH.out _ H2.out⟩
          · have HE : Hid (actD D n ⟨kd, sec, p, F, on, ms⟩ = D) := by show _ = _; unfold actD; simp only; rw [if_neg k1, if_neg k2, if_neg k3, if_neg k4, if_neg k5]
            have z1 : decide (kd = 1) = false := decide_eq_false k1
            have z2 : decide (kd = 2) = false := decide_eq_false k2
            have z3 : decide (kd = 3) = false := decide_eq_false k3
            have z4 : decide (kd = 4) = false := decide_eq_false k4
            have z5 : decide (kd = 5) = false := decide_eq_false k5
            go_enter Try.func16, Try.ntmps16
            go_wp2
            refine bodyPost_end (results_none Try.results16 _ _ _) rfl ?_
            exact ⟨rfl, by rw [HE.out]; exact HG.out, HOTH.out _ (Only.refl _ _)⟩
/-- A group of one's own, above what was there. -/
structure Own1 (W w : World) (g n : Nat) (D : Nat → Ln) : Prop where
  at_ : GAt w g n D
  ge : W.heap.size ≤ g
  bel : Below W.heap.size W w
section
variable {W w w' : World} {g h n m : Nat} {D E : Nat → Ln}
theorem Own1.kept (o : Own1 W w g n D) (hb : Below w.heap.size w w') : Own1 W w' g n D := ⟨o.at_.kept hb, o.ge, o.bel.trans (hb.mono o.bel.size)⟩
theorem Own1.only (o : Own1 W w g n D) (ho : Only [g] w w') : Below W.heap.size W w' := o.bel.trans (ho.below o.bel.size (fun x hx => by rw [List.mem_singleton.1 hx]; exact o.ge))
theorem Own1.to (o : Own1 W w g n D) (ha : GAt w' g n E) (ho : Only [g] w w') : Own1 W w' g n E := ⟨ha, o.ge, o.only ho⟩
theorem Own1.other (o : Own1 W w g n D) (p : Own1 W w h m E) (ho : Only [g] w w') (hne : h ≠ g) : Own1 W w' h m E := ⟨p.at_.other ho (by simpa using hne), p.ge, o.only ho⟩
theorem own_new (hb : Below W.heap.size W w) (h0 : 1 ≤ n) (h1 : n ≤ 8) : Calls Try.prog 9 #[.int .i64 n] w fun e w' => e = .returned (.pointer (some ⟨w.heap.size, 0, none⟩)) ∧ Own1 W w' w.heap.size n (newD n) ∧ Below w.heap.size w w' :=
  (new_in h0 h1).mono fun _ _ ⟨he, h1, h2⟩ => ⟨he, ⟨h1, hb.size, hb.trans (h2.mono hb.size)⟩, h2⟩
end
set_option maxHeartbeats 1000000 in
theorem alive_any (w : World) : Calls Try.prog 15 #[] w fun e w' => e = .returned (.bool true) ∧ Below w.heap.size w w' := by
  have HN := hid (own_new (n := 2) (Below.refl w.heap.size w) (by decide) (by decide))
  have hfd := fld1 5120 5120
  go_enter Try.func15, Try.ntmps15
  go_upto_region 2 with (go_at_call 9; refine Calls.mono HN.out ?_; clear HN; rintro e w1 ⟨rfl, h1, _⟩; have HO := hid h1; clear h1)
  obtain ⟨g, hg⟩ : ∃ g, g = w.heap.size := ⟨_, rfl⟩
  rw [← hg] at HO
  rw [← hg]
  clear hg
  have e0 : (winD (newD 2) 2 0).1 / 1024 = 10 := by decide +kernel
  have HF := hid (frames_any HO.out.at_ 0)
  rw [e0] at HF
  go_upto_region 4 with (go_at_call 17; refine HF.out.mono ?_; clear HF; rintro e w2 ⟨rfl, hb⟩; have HO2 := hid (HO.out.kept hb); clear hb)
  clear HO e0
  go_upto_region 5 with (go_at_call 14; refine (acked_any HO2.out.at_ 0 (F := 3) (by decide)).mono ?_; rintro e w3 ⟨rfl, h1, h2⟩; have HO3 := hid (HO2.out.to h1 h2); clear h1 h2)
  clear HO2
  go_upto_region 6 with (go_at_call 12; refine (cut_any HO3.out.at_ 1).mono ?_; rintro e w4 ⟨rfl, h1, h2⟩; have HO4 := hid (HO3.out.to h1 h2); clear h1 h2)
  clear HO3
  obtain ⟨D4, hD4⟩ : ∃ D4, D4 = loseD (ackedD (newD 2) 2 0 3) 2 1 false := ⟨_, rfl⟩
  have f0 : (winD D4 2 0).1 / 1024 = 13 := by rw [hD4]; decide +kernel
  have f1 : (winD D4 2 1).1 / 1024 = 5 := by rw [hD4]; decide +kernel
  have f2 : winD D4 2 1 = (5120, 5120) := by rw [hD4]; decide +kernel
  rw [← hD4] at HO4
  clear hD4
  have HF0 := hid (frames_any HO4.out.at_ 0)
  rw [f0] at HF0
  go_wp2_with (first
    | (go_at_call 17; refine HF0.out.mono ?_; clear HF0; rintro e w5 ⟨rfl, hb⟩; have HO5 := hid (HO4.out.kept hb); have HF1 := hid (frames_any HO5.out.at_ 1); rw [f1] at HF1; clear hb)
    | (go_at_call 17; refine HF1.out.mono ?_; clear HF1; rintro e w6 ⟨rfl, hb⟩; have HO6 := hid (HO5.out.kept hb); have HF2 := hid (window_any HO6.out.at_ 1); rw [f2] at HF2; clear hb)
    | (go_at_call 13; refine HF2.out.mono ?_; clear HF2; rintro e w7 ⟨rfl, hb⟩; have HO7 := hid (HO6.out.kept hb); clear hb))
  go_ret
  exact ⟨rfl, HO7.out.bel⟩
end Go.Proofs.Ytkcoabjeaoigdaa
