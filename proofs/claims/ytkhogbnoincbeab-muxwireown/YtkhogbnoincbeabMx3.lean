import Derived.Test.YtkhogbnoincbeabMx2
namespace Go.Proofs.Ytkhogbnoincbeab
open Go.RowKit Go.Maps Go.Sort
set_option maxRecDepth 100000

def Big (s n : Int) : Prop := 4611686018427387904 < s ∨ 4611686018427387904 < n
instance (s n : Int) : Decidable (Big s n) := by unfold Big; exact inferInstance
/-- Why a frame can't be written. -/
def faultI (k s n c h : Int) (L : Nat) : Int := if ¬ Known k then 170 else if Big s n then 171 else if 16384 < L then 173 else if ¬ (Bnd k s c h L ∧ Bare k s n c h L) then 172 else 0
theorem ret_i {k : IntKind} {a b : Int} (h : a = b) : Ending.returned (.int k a) = .returned (.int k b) := by rw [h]
section
variable (w : World) (k s n c h : Int) (a : Option Addr) (L cap : Nat)
set_option maxHeartbeats 1000000 in
theorem fault_any : Calls Try.prog 30 #[.agg #[.int .i64 k, .int .u64 s, .int .u64 n, .int .i64 c, .int .i64 h, .slice a L cap]] w fun e w' => e = .returned (.int .i64 (faultI k s n c h L)) ∧ Below w.heap.size w w' := by
  have HK := hid (fun w => known_any w k)
  have HN := hid (fun w => bounded_any w k s n c h a L cap)
  have HC := hid (fun w => bare_any w k s n c h a L cap)
  have HX := hid ((Below.refl w.heap.size w).alloc (Nat.le_refl _) (.cells #[.int .i64 k, .int .u64 s, .int .u64 n, .int .i64 c, .int .i64 h, .slice a L cap] 41))
  have HQ := hid (fat_new w k s n c h (.slice a L cap))
  go_enter Try.func30, Try.ntmps30
  go_wp2_with (first | (go_at_call 47; refine (HK.out _).mono ?_; rintro e w' ⟨rfl, rfl⟩) | (go_at_call 48; refine (HN.out _).mono ?_; rintro e w1 ⟨rfl, hb1⟩; have HB1 := hid (HX.out.trans (hb1.mono HX.out.size)); obtain ⟨a0, a1, a2, a3, a4, a5⟩ := HQ.out.kept hb1; clear hb1) | (go_at_call 49; refine (HC.out _).mono ?_; rintro e w2 ⟨rfl, hb2⟩; have HB2 := hid (HB1.out.trans (hb2.mono HB1.out.size)); clear hb2))
  all_goals
    go_ret
    refine ⟨ret_i ?_, by first | exact HB2.out | exact HB1.out | exact HX.out⟩
    unfold faultI
    clear HK HN HC HX HQ
    try clear HB1
    try clear HB2
    (first | (simp [*]; done) | (simp_all [Big]; done) | (simp_all [Big]; omega))
end
end Go.Proofs.Ytkhogbnoincbeab
