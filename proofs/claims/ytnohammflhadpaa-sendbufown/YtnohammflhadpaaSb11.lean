import Derived.Test.YtnohammflhadpaaSb10
namespace Go.Proofs.Ytnohammflhadpaa
open Go.RowKit Go.Maps Go.Sort
set_option maxRecDepth 100000

/-- A buffer with nothing in it. -/
def Sb.mk1 (b r m e : Int) : Sb := ⟨r, m, b, b, b, e, false, []⟩
theorem Sb.mk1_ok {b r m e : Int} (b0 : 0 ≤ b) (b1 : b ≤ 4611686018427387904) (r0 : 1 ≤ r) (r1 : r ≤ 65536) (m0 : 1 ≤ m) (m1 : m ≤ 1024) (h1 : 0 ≤ e) (h2 : e ≤ 18446744073709551615) : (Sb.mk1 b r m e).Ok :=
  ⟨r0, r1, m0, m1, b0, by show b ≤ b + 1; omega, b0, Int.le_refl b, b1, by show b - r ≤ b; omega, h1, h2, (fun c hc => by cases hc), List.Pairwise.nil, Nat.zero_le _, (fun _ c hc => by cases hc), (fun c hc => by cases hc), (fun i h => by cases h), fun c hc => by cases hc⟩
set_option maxHeartbeats 2000000 in
theorem new_any (w : World) {base room mss edge b r m : Int} (h0 : 0 ≤ base) (h1 : 0 ≤ edge) (h2 : edge ≤ 18446744073709551615) (hb : min base 4611686018427387904 = b) (hr : max 1 (min room 65536) = r) (hm : max 1 (min mss 1024) = m) :
    Calls Try.prog 9 #[.int .u64 base, .int .i64 room, .int .i64 mss, .int .u64 edge] w fun e w' => ∃ p, e = .returned (.pointer (some ⟨p, 0, none⟩)) ∧ SbW w' p (Sb.mk1 b r m edge) none 0 ∧ Below w.heap.size w w' ∧ w.heap.size ≤ p := by
  have HBW := fun w n l m => hid (between_any w n l m)
  have HK := hid (Sb.mk1_ok (b := b) (r := r) (m := m) (e := edge) (by omega) (by omega) (by omega) (by omega) (by omega) (by omega) h1 h2)
  have HRR := hid hr
  have HMM := hid hm
  clear hr hm
  go_enter Try.func9, Try.ntmps9
  go_wp2_with (go_at_call 36; refine (HBW _ _ _ _).out.mono ?_; rintro e w1 ⟨rfl, rfl⟩)
  go_ret
  rw [HRR.out, HMM.out]
  have hrow : Row (w1.alloc (.cells #[.int .i64 r, .int .i64 m, .int .u64 b, .int .u64 b, .int .u64 b, .int .u64 edge, .bool false, .slice none 0 0] 74)) w1.heap.size [.int .i64 r, .int .i64 m, .int .u64 b, .int .u64 b, .int .u64 b, .int .u64 edge, .bool false, .slice none 0 0] 74 := Row.new w1 _ _
  exact ⟨w1.heap.size, rfl, ⟨⟨hrow, fun k hk => (by cases hk), fun c hc => (by cases hc), HK.out, Nat.le_refl _, Nat.zero_le _⟩, .inl rfl, fun c hc => (by cases hc)⟩, (Below.refl _ _).alloc (Nat.le_refl _) _, Nat.le_refl _⟩
end Go.Proofs.Ytnohammflhadpaa
