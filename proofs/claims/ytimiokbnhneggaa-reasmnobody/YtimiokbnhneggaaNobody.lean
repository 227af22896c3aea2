import Derived.Test.YtimiokbnhneggaaNo0
namespace Go.Proofs.Ytimiokbnhneggaa
open Go.RowKit Go.Maps Go.Sort
set_option maxRecDepth 100000

theorem build57z (w : World) : (Instr.build 57 #[]).run Try.prog w = .ok (.agg #[.slice none 0 0, .map none, .int .u64 0, .int .i64 0, .int .i64 0, .int .u64 0, .int .u64 0, .bool false]) w := by kernel_rfl
theorem edge1 {w : World} {p b : Nat} {v : Value} (h : BufR w p v b (Bf.zero 0 1 1)) : Calls Try.prog 17 #[.pointer (some ⟨p, 0, none⟩)] w fun e w' => e = .returned (.int .u64 1) ∧ ∃ q, w' = w.drewN q := edge_any h
set_option maxHeartbeats 2000000 in
theorem nobody_f {w : World} (off n : Int) (s : Option Addr) (l cap : Nat) : Calls Try.prog 6 #[.bool false, .int .u64 off, .slice s l cap, .int .i64 n] w fun e w' => e = .returned (.bool true) ∧ Below w.heap.size w w' := by
  have hNew := bnew_ok w (base := 0) (room := 1) (gaps := 1) (by omega) (by omega) (by omega) (by omega) (by omega) (by omega) (fun _ => 0)
  have H11 := hid (fun W => take_nb (w := W) (a := none) (.inl rfl) (.int .u64 off) s l cap)
  have H18 := hid (fun W => fin_nb (w := W) (a := none) (.inl rfl) (.int .u64 off))
  have H12 := hid (fun W => read_nb (w := W) (a := none) (.inl rfl) (.int .i64 n))
  have H16 := hid (fun W => state_nb (w := W) (a := none) (.inl rfl))
  have H19 := hid (fun W => next_nb (w := W) (a := none) (.inl rfl))
  have H17 := hid (fun W => edge_nb (w := W) (a := none) (.inl rfl))
  go_enter Try.func6, Try.ntmps6
  go_upto_region 5 with (go_at_call 9; refine hNew.mono ?_; rintro e w1 ⟨p, b, rfl, hB, hb1, hf⟩; have HG := hid (edge1 hB.r); have HB1 := hid hb1; clear hB hb1 hf hNew)
  go_upto_region 10 with (first | (go_at_call 17; refine HG.out.mono ?_; rintro e w2 ⟨rfl, q, rfl⟩) | (go_at_call 11; refine (H11.out _).mono ?_; rintro e w3 ⟨rfl, rfl⟩) | (go_at_call 18; refine (H18.out _).mono ?_; rintro e w3 ⟨rfl, rfl⟩) | (go_at_call 12; refine (H12.out _).mono ?_; rintro e w3 ⟨rfl, rfl⟩))
  have hsz : (w1.drewN q).heap.size = w1.heap.size := rfl
  go_upto_region 12 with (go_at_call 16; refine (H16.out _).mono ?_; rintro e w4 ⟨rfl, hb4⟩; have HB4 := hid hb4; clear hb4)
  go_wp2_with (first | (go_at_call 19; refine (H19.out _).mono ?_; rintro e w3 ⟨rfl, rfl⟩) | (go_at_call 17; refine (H17.out _).mono ?_; rintro e w3 ⟨rfl, rfl⟩))
  go_ret
  refine ⟨rfl, ?_⟩
  have hb4 : Below w.heap.size w w4 := HB1.out.trans (Below.mono ⟨HB4.out.os, HB4.out.tape, HB4.out.output, HB4.out.size, HB4.out.block⟩ HB1.out.size)
  exact hb4.alloc hb4.size _
set_option maxHeartbeats 2000000 in
theorem nobody_t {w : World} (off n : Int) (s : Option Addr) (l cap : Nat) : Calls Try.prog 6 #[.bool true, .int .u64 off, .slice s l cap, .int .i64 n] w fun e w' => e = .returned (.bool true) ∧ Below w.heap.size w w' := by
  obtain ⟨W0, hW0⟩ : ∃ W0, W0 = w.alloc (.cells #[.slice none 0 0, .map none, .int .u64 0, .int .i64 0, .int .i64 0, .int .u64 0, .int .u64 0, .bool false] 57) := ⟨_, rfl⟩
  have hbW : Below w.heap.size w W0 := by rw [hW0]; exact (Below.refl _ _).alloc (Nat.le_refl _) _
  have hNB : NoB W0 (some ⟨w.heap.size, 0, none⟩) := .inr ⟨_, rfl, by rw [hW0, cell_of_row _ _ _ _ _ _ (heap_alloc_new w _)]; rfl⟩
  have hNew := bnew_ok W0 (base := 0) (room := 1) (gaps := 1) (by omega) (by omega) (by omega) (by omega) (by omega) (by omega) (fun _ => 0)
  have H11 := hid (fun W (hb : Below W0.heap.size W0 W) => take_nb (w := W) (hNB.kept hb) (.int .u64 off) s l cap)
  have H18 := hid (fun W (hb : Below W0.heap.size W0 W) => fin_nb (w := W) (hNB.kept hb) (.int .u64 off))
  have H12 := hid (fun W (hb : Below W0.heap.size W0 W) => read_nb (w := W) (hNB.kept hb) (.int .i64 n))
  have H16 := hid (fun W (hb : Below W0.heap.size W0 W) => state_nb (w := W) (hNB.kept hb))
  have H19 := hid (fun W (hb : Below W0.heap.size W0 W) => next_nb (w := W) (hNB.kept hb))
  have H17 := hid (fun W (hb : Below W0.heap.size W0 W) => edge_nb (w := W) (hNB.kept hb))
  have hbd := build57z
  have HBW := hid hbW
  have HW0 := hid hW0
  clear hW0 hNB hbW
  go_enter Try.func6, Try.ntmps6
  go_upto_region 4 with fail
  rw [← HW0.out]
  clear HW0 hbd
  go_upto_region 5 with (go_at_call 9; refine hNew.mono ?_; rintro e w1 ⟨p, b, rfl, hB, hb1, hf⟩; have HG := hid (edge1 hB.r); have HB1 := hid hb1; clear hB hb1 hf hNew)
  go_upto_region 10 with (first | (go_at_call 17; refine HG.out.mono ?_; rintro e w2 ⟨rfl, q, rfl⟩; have HQ := hid (below_drewN HB1.out q)) | (go_at_call 11; refine (H11.out _ HQ.out).mono ?_; rintro e w3 ⟨rfl, rfl⟩) | (go_at_call 18; refine (H18.out _ HQ.out).mono ?_; rintro e w3 ⟨rfl, rfl⟩) | (go_at_call 12; refine (H12.out _ HQ.out).mono ?_; rintro e w3 ⟨rfl, rfl⟩))
  go_upto_region 12 with (go_at_call 16; refine (H16.out _ HQ.out).mono ?_; rintro e w4 ⟨rfl, hb4⟩; have HB4 := hid (HQ.out.trans (hb4.mono HQ.out.size)); clear hb4)
  have HQ5 : Hid (∀ o, Below W0.heap.size W0 (w4.alloc o)) := fun o => HB4.out.alloc HB4.out.size o
  go_wp2_with (first | (go_at_call 19; refine (H19.out _ (HQ5.out _)).mono ?_; rintro e w3 ⟨rfl, rfl⟩) | (go_at_call 17; refine (H17.out _ (HQ5.out _)).mono ?_; rintro e w3 ⟨rfl, rfl⟩))
  go_ret
  refine ⟨rfl, ?_⟩
  exact HBW.out.trans ((HQ5.out _).mono HBW.out.size)
end Go.Proofs.Ytimiokbnhneggaa
