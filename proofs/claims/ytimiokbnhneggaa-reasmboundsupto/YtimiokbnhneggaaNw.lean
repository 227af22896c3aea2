import Derived.Test.YtimiokbnhneggaaRd2
namespace Go.Proofs.Ytimiokbnhneggaa
open Go.RowKit Go.Maps Go.Sort
set_option maxRecDepth 100000

/-- A buffer with nothing in it. -/
def Bf.zero (base room gaps : Int) : Bf := ⟨base, room, gaps, base, 0, false, []⟩
theorem zero_ok {base room gaps : Int} (h0 : 0 ≤ base) (h1 : base ≤ 4611686018427387904) (r0 : 1 ≤ room) (r1 : room ≤ 1073741824) (g0 : 1 ≤ gaps) (g1 : gaps ≤ 64) : (Bf.zero base room gaps).Ok :=
  ⟨⟨fun r hr => by simp [Bf.zero] at hr, by simp [Bf.zero]⟩, h0, h1, r0, r1, g0, g1, Int.le_refl _, by simp only [Bf.zero]; omega, by simp only [Bf.zero]; omega, fun r hr => by simp [Bf.zero] at hr, by
    unfold Bf.apart
    have e : (Bf.zero base room gaps).gap = base := rfl
    have e2 : (Bf.zero base room gaps).read = base := rfl
    rw [e, e2, if_neg (by simp)]
    simp [Bf.zero]
    omega, by simp [Bf.zero], by simp only [Bf.zero]; omega, fun _ => rfl, fun e => by simp [Bf.zero] at e⟩
theorem mkmap (w : World) : (Instr.makeMap 55 none).run Try.prog w = .ok (.map (some w.heap.size)) (w.alloc (.map #[] 0)) := by kernel_rfl
theorem build57 (w : World) (b : Nat) (x y z : Int) : (Instr.build 57 #[(0, .agg #[.slice none 0 0]), (1, .map (some b)), (2, .int .u64 x), (3, .int .i64 y), (4, .int .i64 z), (5, .int .u64 x)]).run Try.prog w = .ok (.agg #[.slice none 0 0, .map (some b), .int .u64 x, .int .i64 y, .int .i64 z, .int .u64 x, .int .u64 0, .bool false]) w := by kernel_rfl
set_option maxHeartbeats 2000000 in
theorem bnew_ok (w : World) {base room gaps : Int} (h0 : 0 ≤ base) (h1 : base ≤ 4611686018427387904) (r0 : 1 ≤ room) (r1 : room ≤ 1073741824) (g0 : 1 ≤ gaps) (g1 : gaps ≤ 64) (f : Int → BitVec 8) :
    Calls Try.prog 9 #[.int .u64 base, .int .i64 room, .int .i64 gaps] w fun e w' => ∃ p b, e = .returned (.tuple #[.pointer (some ⟨p, 0, none⟩), .int .i64 0]) ∧ BufAt w' p (.slice none 0 0) b 0 (.map []) (Bf.zero base room gaps) f ∧ Below w.heap.size w w' ∧ ∀ k, Foot p (.slice none 0 0) b (.map []) k → w.heap.size ≤ k := by
  have hN := new_none w
  have HOK := hid (zero_ok h0 h1 r0 r1 g0 g1)
  have k1 : ¬ room < 1 := by omega
  have k2 : ¬ 1073741824 < room := by omega
  have k3 : ¬ 4611686018427387904 < base := by omega
  have k4 : ¬ gaps < 1 := by omega
  have k5 : ¬ 64 < gaps := by omega
  have hmk := mkmap
  have hbd := build57
  go_enter Try.func9, Try.ntmps9
  go_wp2_with (go_at_call 21; refine hN.mono ?_; rintro e w1 ⟨q, rfl, hq, hb⟩; have HB := hid hb; have c0 : w1.cell? ⟨q, 0, none⟩ = some (.slice none 0 0) := (by rw [cell_of_row w1 q 0 _ _ _ hq]; rfl); clear hb hN hq)
  go_ret2
  have hb2 : Below w.heap.size w (w1.alloc (.map #[] 0)) := HB.out.alloc HB.out.size _
  refine ⟨w1.heap.size + 1, w1.heap.size, by first | rfl | simp, ⟨⟨⟨?_, ?_⟩, HOK.out⟩, ⟨?_, fun k g hk => ?_, fun k k' g hk => ?_⟩, fun x hx => ?_, ?_⟩, ?_, fun k hk => ?_⟩
  · have := heap_alloc_new (w1.alloc (.map #[] 0)) (.cells #[.slice none 0 0, .map (some w1.heap.size), .int .u64 base, .int .i64 room, .int .i64 gaps, .int .u64 base, .int .u64 0, .bool false] 57)
    rw [show (w1.alloc (.map #[] 0)).heap.size = w1.heap.size + 1 by simp] at this
    exact this
  · simpa [Bf.zero, flat] using World.ownsRow_nil _ 0 50 2
  · exact (World.ownsMap_made w1 Try.prog 28 readB).alloc _
  · rw [blk_empty] at hk; cases hk
  · rw [blk_empty] at hk; cases hk
  · obtain ⟨r, hr, _⟩ := hx; simp [Bf.zero] at hr
  · simp [Bf.zero, total]
  · exact hb2.alloc hb2.size _
  · have := HB.out.size
    rcases hk with rfl | e | e | ⟨x, hx⟩
    · omega
    · simp [Value.ownBlock] at e
    · omega
    · rw [blk_empty] at hx; cases hx
end Go.Proofs.Ytimiokbnhneggaa
