import Derived.Test.YtkhogbnoincbeabEnc0
namespace Go.Proofs.Ytkhogbnoincbeab
open Go.RowKit Go.Maps Go.Sort
set_option maxRecDepth 100000
theorem enc_both {k s n c h : Int} {bs : List (BitVec 8)} (hS0 : HasS k) (hN0 : HasN k) : encB k s n c h bs = [by8 k] ++ numB s.toNat ++ numB n.toNat := by unfold encB; rw [if_pos hS0, if_neg hN0.1, if_neg hN0.2.1, if_pos hN0]; simp
theorem enc_ping {k s n c h : Int} {bs : List (BitVec 8)} (hS0 : ¬ HasS k) (hN0 : HasN k) : encB k s n c h bs = [by8 k] ++ numB n.toNat := by unfold encB; rw [if_neg hS0, if_neg hN0.1, if_neg hN0.2.1, if_pos hN0]; simp
theorem Grew.below {base : Nat} {w w' : World} {v v' : Value} {l : List (BitVec 8)} (h : Grew base w v l w' v') (hv : v.ownBlock = none) : Below w.heap.size w w' :=
  h.2.1.below (fun x hx => by rw [hv] at hx; cases hx) (Nat.le_refl _)
set_option maxHeartbeats 2000000 in
theorem rtext_open (w : World) (k s n c h : Int) (a : Option Addr) (bs : List (BitVec 8)) (L cap : Nat) (hB : BytesAt w a bs) (hL : bs.length = L) (hz : a = none → cap = 0) (hk0 : 1 ≤ k) (hk1 : k ≤ 9) (hs0 : 0 ≤ s) (hs1 : s ≤ 4611686018427387904) (hn0 : 0 ≤ n) (hn1 : n ≤ 4611686018427387904) (hl : L ≤ 16384) (hk : k = 1) (hc0 : 0 ≤ c) (hc1 : c ≤ 7) (hh0 : 1 ≤ h) (hh1 : h ≤ 255) :
    Calls Try.prog 46 #[.agg #[.int .i64 k, .int .u64 s, .int .u64 n, .int .i64 c, .int .i64 h, .slice a L cap]] w fun e w' => ∃ v, e = .returned v ∧ OwnBy w' w.heap.size v (encB k s n c h bs) ∧ Below w.heap.size w w' := by
  have HBY := hid hB
  have HLEN := hid hL
  have HZ := hid hz
  have HNS : Hid ((numB s.toNat).length ≤ 9) := numB_len 8 _ (by omega)
  have HNN : Hid ((numB n.toNat).length ≤ 9) := numB_len 8 _ (by omega)
  have HNL : Hid ((numB L).length ≤ 9) := numB_len 8 _ (by omega)
  have HK := hid (by8_ub (x := k) (by omega) (by omega))
  have HQ := hid (fat_new w k s n c h (.slice a L cap))
  have HBX := hid (below_new w (.cells #[.int .i64 k, .int .u64 s, .int .u64 n, .int .i64 c, .int .i64 h, .slice a L cap] 41))
  have HLS := hid (fun w => long_any w s hs0 (by omega))
  have HLN := hid (fun w => long_any w n hn0 (by omega))
  have HLL := hid (fun w => long_any w (L : Int) (by omega) (by omega))
  have H1 : Hid (LS w k s n c h (.slice a L cap) [by8 k] ((w.alloc (.cells #[.int .i64 k, .int .u64 s, .int .u64 n, .int .i64 c, .int .i64 h, .slice a L cap] 41)).alloc (.cells #[.int .u8 k] 5)) (.slice (some ⟨w.heap.size + 1, 0, none⟩) 1 1)) := by
    have hb := below_new (w.alloc (.cells #[.int .i64 k, .int .u64 s, .int .u64 n, .int .i64 c, .int .i64 h, .slice a L cap] 41)) (.cells #[.int .u8 k] 5)
    refine ⟨HQ.out.kept hb, ⟨rfl, .inr ⟨w.heap.size + 1, 1, #[.int .u8 k], rfl, Nat.le_refl _, ?_, Nat.le_refl _, by decide, rfl, ?_⟩⟩, HBX.out.trans (hb.mono HBX.out.size), by simp⟩
    · have := heap_alloc_last (w.alloc (.cells #[.int .i64 k, .int .u64 s, .int .u64 n, .int .i64 c, .int .i64 h, .slice a L cap] 41)) (.cells #[.int .u8 k] 5)
      simpa using this
    · show [Value.int .u8 k] = [bv (by8 k)]
      rw [bv, ← HK.out]
  obtain ⟨p0, p1, p2, p3, p4, p5⟩ := H1.out.f
  clear hB hL hz
  have hS0 : HasS k := by subst hk; decide
  have HC := hid (by8_ub (x := c) (by omega) (by omega))
  have HH := hid (by8_ub (x := h) (by omega) (by omega))
  subst hk
  go_enter Try.func46, Try.ntmps46
  go_wp2_with (first | (at_builtin; refine wpAppendA (.tmp 25) (.tmp 32) rfl rfl (base := w.heap.size + 1) rfl (own_below H2.out.o (below_new _ _)) (by have := H2.out.z; simp; omega) rfl (fun e => by cases e) (bs := [by8 c, by8 h]) rfl (bytes_two _ _ _ (by8 c) (by8 h) (by rw [← HC.out]) (by rw [← HH.out])) (by have := HNS.out; have := HNN.out; have := HNL.out; first | (simp; done) | (simp; omega)) ?_; intro w12 v12 h5 g5; have H3 := hid (H2.out.grow (below_new _ _) (own_one h5.out rfl rfl) g5.out); clear h5 g5; obtain ⟨p0, p1, p2, p3, p4, p5⟩ := H3.out.f) | (at_builtin; refine wpAppendA (.tmp 16) (.tmp 19) rfl rfl (base := w.heap.size + 1) rfl (own_below H1.out.o HG1.out) (by have := H1.out.z; have := HG1.out.size; omega) rfl HZ1.out (bs := numB s.toNat) rfl HA1.out (by have := HNS.out; have := HNN.out; have := HNL.out; first | (simp; done) | (simp; omega)) ?_; intro w11 v11 h5 g5; have H2 := hid (H1.out.grow HG1.out (own_one h5.out rfl rfl) g5.out); clear h5 g5; obtain ⟨p0, p1, p2, p3, p4, p5⟩ := H2.out.f) | (go_at_call 60; have hx := H1; refine (HLS.out _).mono ?_; rintro e x1 ⟨vx, rfl, g5⟩; have HG1 := hid (Grew.below g5 rfl); obtain ⟨ax, cx, rfl, hA, _, _, hZ, _⟩ := ownBy_shape g5.1; have HA1 := hid hA; have HZ1 := hid hZ; clear g5 hx hA hZ; obtain ⟨p0, p1, p2, p3, p4, p5⟩ := H1.out.f.kept HG1.out))
  go_ret
  refine ⟨_, rfl, own_less (base := w.heap.size + 1) (b2 := w.heap.size) ?_ (by omega), H3.out.b⟩
  have ho := H3.out.o
  have e : encB 1 s n c h bs = [by8 1] ++ numB s.toNat ++ [by8 c, by8 h] := by unfold encB; rw [if_pos hS0, if_pos rfl]; simp
  rw [e]
  exact ho
set_option maxHeartbeats 2000000 in
theorem rtext_bytes (w : World) (k s n c h : Int) (a : Option Addr) (bs : List (BitVec 8)) (L cap : Nat) (hB : BytesAt w a bs) (hL : bs.length = L) (hz : a = none → cap = 0) (hk0 : 1 ≤ k) (hk1 : k ≤ 9) (hs0 : 0 ≤ s) (hs1 : s ≤ 4611686018427387904) (hn0 : 0 ≤ n) (hn1 : n ≤ 4611686018427387904) (hl : L ≤ 16384) (hk : k = 2) :
    Calls Try.prog 46 #[.agg #[.int .i64 k, .int .u64 s, .int .u64 n, .int .i64 c, .int .i64 h, .slice a L cap]] w fun e w' => ∃ v, e = .returned v ∧ OwnBy w' w.heap.size v (encB k s n c h bs) ∧ Below w.heap.size w w' := by
  have HBY := hid hB
  have HLEN := hid hL
  have HZ := hid hz
  have HNS : Hid ((numB s.toNat).length ≤ 9) := numB_len 8 _ (by omega)
  have HNN : Hid ((numB n.toNat).length ≤ 9) := numB_len 8 _ (by omega)
  have HNL : Hid ((numB L).length ≤ 9) := numB_len 8 _ (by omega)
  have HK := hid (by8_ub (x := k) (by omega) (by omega))
  have HQ := hid (fat_new w k s n c h (.slice a L cap))
  have HBX := hid (below_new w (.cells #[.int .i64 k, .int .u64 s, .int .u64 n, .int .i64 c, .int .i64 h, .slice a L cap] 41))
  have HLS := hid (fun w => long_any w s hs0 (by omega))
  have HLN := hid (fun w => long_any w n hn0 (by omega))
  have HLL := hid (fun w => long_any w (L : Int) (by omega) (by omega))
  have H1 : Hid (LS w k s n c h (.slice a L cap) [by8 k] ((w.alloc (.cells #[.int .i64 k, .int .u64 s, .int .u64 n, .int .i64 c, .int .i64 h, .slice a L cap] 41)).alloc (.cells #[.int .u8 k] 5)) (.slice (some ⟨w.heap.size + 1, 0, none⟩) 1 1)) := by
    have hb := below_new (w.alloc (.cells #[.int .i64 k, .int .u64 s, .int .u64 n, .int .i64 c, .int .i64 h, .slice a L cap] 41)) (.cells #[.int .u8 k] 5)
    refine ⟨HQ.out.kept hb, ⟨rfl, .inr ⟨w.heap.size + 1, 1, #[.int .u8 k], rfl, Nat.le_refl _, ?_, Nat.le_refl _, by decide, rfl, ?_⟩⟩, HBX.out.trans (hb.mono HBX.out.size), by simp⟩
    · have := heap_alloc_last (w.alloc (.cells #[.int .i64 k, .int .u64 s, .int .u64 n, .int .i64 c, .int .i64 h, .slice a L cap] 41)) (.cells #[.int .u8 k] 5)
      simpa using this
    · show [Value.int .u8 k] = [bv (by8 k)]
      rw [bv, ← HK.out]
  obtain ⟨p0, p1, p2, p3, p4, p5⟩ := H1.out.f
  clear hB hL hz
  have hS0 : HasS k := by subst hk; decide
  subst hk
  go_enter Try.func46, Try.ntmps46
  go_wp2_with (first | (at_builtin; refine wpAppendA (.tmp 43) (.tmp 45) rfl rfl (base := w.heap.size + 1) rfl H3.out.o (by have := H3.out.z; omega) rfl HZ.out (bs := bs) HLEN.out (HBY.out.kept H3.out.b) (by have := HNS.out; have := HNN.out; have := HNL.out; first | (simp; done) | (simp; omega)) ?_; intro w13 v13 h5 g5; have H4 := hid (H3.out.grow (Below.refl _ _) (own_one h5.out rfl HLEN.out) g5.out); clear h5 g5; obtain ⟨p0, p1, p2, p3, p4, p5⟩ := H4.out.f) | (at_builtin; refine wpAppendA (.tmp 36) (.tmp 41) rfl rfl (base := w.heap.size + 1) rfl (own_below H2.out.o HG2.out) (by have := H2.out.z; have := HG2.out.size; omega) rfl HZ2.out (bs := numB L) rfl HA2.out (by have := HNS.out; have := HNN.out; have := HNL.out; first | (simp; done) | (simp; omega)) ?_; intro w12 v12 h5 g5; have H3 := hid (H2.out.grow HG2.out (own_one h5.out rfl rfl) g5.out); clear h5 g5; obtain ⟨p0, p1, p2, p3, p4, p5⟩ := H3.out.f) | (go_at_call 60; have hx := H2; refine (HLL.out _).mono ?_; rintro e x2 ⟨vx, rfl, g5⟩; have HG2 := hid (Grew.below g5 rfl); obtain ⟨ax, cx, rfl, hA, _, _, hZ, _⟩ := ownBy_shape g5.1; have HA2 := hid hA; have HZ2 := hid hZ; clear g5 hx hA hZ; obtain ⟨p0, p1, p2, p3, p4, p5⟩ := H2.out.f.kept HG2.out) | (at_builtin; refine wpAppendA (.tmp 16) (.tmp 19) rfl rfl (base := w.heap.size + 1) rfl (own_below H1.out.o HG1.out) (by have := H1.out.z; have := HG1.out.size; omega) rfl HZ1.out (bs := numB s.toNat) rfl HA1.out (by have := HNS.out; have := HNN.out; have := HNL.out; first | (simp; done) | (simp; omega)) ?_; intro w11 v11 h5 g5; have H2 := hid (H1.out.grow HG1.out (own_one h5.out rfl rfl) g5.out); clear h5 g5; obtain ⟨p0, p1, p2, p3, p4, p5⟩ := H2.out.f) | (go_at_call 60; have hx := H1; refine (HLS.out _).mono ?_; rintro e x1 ⟨vx, rfl, g5⟩; have HG1 := hid (Grew.below g5 rfl); obtain ⟨ax, cx, rfl, hA, _, _, hZ, _⟩ := ownBy_shape g5.1; have HA1 := hid hA; have HZ1 := hid hZ; clear g5 hx hA hZ; obtain ⟨p0, p1, p2, p3, p4, p5⟩ := H1.out.f.kept HG1.out))
  go_ret
  refine ⟨_, rfl, own_less (base := w.heap.size + 1) (b2 := w.heap.size) ?_ (by omega), H4.out.b⟩
  have ho := H4.out.o
  have e : encB 2 s n c h bs = [by8 2] ++ numB s.toNat ++ numB L ++ bs := by unfold encB; rw [if_pos hS0, if_neg (by decide), if_pos rfl, HLEN.out]; simp
  rw [e]
  exact ho
set_option maxHeartbeats 2000000 in
theorem rtext_both (w : World) (k s n c h : Int) (a : Option Addr) (bs : List (BitVec 8)) (L cap : Nat) (hB : BytesAt w a bs) (hL : bs.length = L) (hz : a = none → cap = 0) (hk0 : 1 ≤ k) (hk1 : k ≤ 9) (hs0 : 0 ≤ s) (hs1 : s ≤ 4611686018427387904) (hn0 : 0 ≤ n) (hn1 : n ≤ 4611686018427387904) (hl : L ≤ 16384) (hk : k = 3 ∨ k = 5 ∨ k = 6 ∨ k = 9) :
    Calls Try.prog 46 #[.agg #[.int .i64 k, .int .u64 s, .int .u64 n, .int .i64 c, .int .i64 h, .slice a L cap]] w fun e w' => ∃ v, e = .returned v ∧ OwnBy w' w.heap.size v (encB k s n c h bs) ∧ Below w.heap.size w w' := by
  have HBY := hid hB
  have HLEN := hid hL
  have HZ := hid hz
  have HNS : Hid ((numB s.toNat).length ≤ 9) := numB_len 8 _ (by omega)
  have HNN : Hid ((numB n.toNat).length ≤ 9) := numB_len 8 _ (by omega)
  have HNL : Hid ((numB L).length ≤ 9) := numB_len 8 _ (by omega)
  have HK := hid (by8_ub (x := k) (by omega) (by omega))
  have HQ := hid (fat_new w k s n c h (.slice a L cap))
  have HBX := hid (below_new w (.cells #[.int .i64 k, .int .u64 s, .int .u64 n, .int .i64 c, .int .i64 h, .slice a L cap] 41))
  have HLS := hid (fun w => long_any w s hs0 (by omega))
  have HLN := hid (fun w => long_any w n hn0 (by omega))
  have HLL := hid (fun w => long_any w (L : Int) (by omega) (by omega))
  have H1 : Hid (LS w k s n c h (.slice a L cap) [by8 k] ((w.alloc (.cells #[.int .i64 k, .int .u64 s, .int .u64 n, .int .i64 c, .int .i64 h, .slice a L cap] 41)).alloc (.cells #[.int .u8 k] 5)) (.slice (some ⟨w.heap.size + 1, 0, none⟩) 1 1)) := by
    have hb := below_new (w.alloc (.cells #[.int .i64 k, .int .u64 s, .int .u64 n, .int .i64 c, .int .i64 h, .slice a L cap] 41)) (.cells #[.int .u8 k] 5)
    refine ⟨HQ.out.kept hb, ⟨rfl, .inr ⟨w.heap.size + 1, 1, #[.int .u8 k], rfl, Nat.le_refl _, ?_, Nat.le_refl _, by decide, rfl, ?_⟩⟩, HBX.out.trans (hb.mono HBX.out.size), by simp⟩
    · have := heap_alloc_last (w.alloc (.cells #[.int .i64 k, .int .u64 s, .int .u64 n, .int .i64 c, .int .i64 h, .slice a L cap] 41)) (.cells #[.int .u8 k] 5)
      simpa using this
    · show [Value.int .u8 k] = [bv (by8 k)]
      rw [bv, ← HK.out]
  obtain ⟨p0, p1, p2, p3, p4, p5⟩ := H1.out.f
  clear hB hL hz
  have hS0 : HasS k := by unfold HasS; omega
  have hN0 : HasN k := by unfold HasN; omega
  rcases hk with hk | hk | hk | hk
  all_goals
    subst hk
    go_enter Try.func46, Try.ntmps46
    go_wp2_with (first | (at_builtin; refine wpAppendA (.tmp 54) (.tmp 57) rfl rfl (base := w.heap.size + 1) rfl (own_below H2.out.o HG2.out) (by have := H2.out.z; have := HG2.out.size; omega) rfl HZ2.out (bs := numB n.toNat) rfl HA2.out (by have := HNS.out; have := HNN.out; have := HNL.out; first | (simp; done) | (simp; omega)) ?_; intro w12 v12 h5 g5; have H3 := hid (H2.out.grow HG2.out (own_one h5.out rfl rfl) g5.out); clear h5 g5; obtain ⟨p0, p1, p2, p3, p4, p5⟩ := H3.out.f) | (go_at_call 60; have hx := H2; refine (HLN.out _).mono ?_; rintro e x2 ⟨vx, rfl, g5⟩; have HG2 := hid (Grew.below g5 rfl); obtain ⟨ax, cx, rfl, hA, _, _, hZ, _⟩ := ownBy_shape g5.1; have HA2 := hid hA; have HZ2 := hid hZ; clear g5 hx hA hZ; obtain ⟨p0, p1, p2, p3, p4, p5⟩ := H2.out.f.kept HG2.out) | (at_builtin; refine wpAppendA (.tmp 16) (.tmp 19) rfl rfl (base := w.heap.size + 1) rfl (own_below H1.out.o HG1.out) (by have := H1.out.z; have := HG1.out.size; omega) rfl HZ1.out (bs := numB s.toNat) rfl HA1.out (by have := HNS.out; have := HNN.out; have := HNL.out; first | (simp; done) | (simp; omega)) ?_; intro w11 v11 h5 g5; have H2 := hid (H1.out.grow HG1.out (own_one h5.out rfl rfl) g5.out); clear h5 g5; obtain ⟨p0, p1, p2, p3, p4, p5⟩ := H2.out.f) | (go_at_call 60; have hx := H1; refine (HLS.out _).mono ?_; rintro e x1 ⟨vx, rfl, g5⟩; have HG1 := hid (Grew.below g5 rfl); obtain ⟨ax, cx, rfl, hA, _, _, hZ, _⟩ := ownBy_shape g5.1; have HA1 := hid hA; have HZ1 := hid hZ; clear g5 hx hA hZ; obtain ⟨p0, p1, p2, p3, p4, p5⟩ := H1.out.f.kept HG1.out))
    go_ret
    refine ⟨_, rfl, own_less (base := w.heap.size + 1) (b2 := w.heap.size) ?_ (by omega), H3.out.b⟩
    have ho := H3.out.o
    rw [enc_both hS0 hN0]
    exact ho
set_option maxHeartbeats 2000000 in
theorem rtext_end (w : World) (k s n c h : Int) (a : Option Addr) (bs : List (BitVec 8)) (L cap : Nat) (hB : BytesAt w a bs) (hL : bs.length = L) (hz : a = none → cap = 0) (hk0 : 1 ≤ k) (hk1 : k ≤ 9) (hs0 : 0 ≤ s) (hs1 : s ≤ 4611686018427387904) (hn0 : 0 ≤ n) (hn1 : n ≤ 4611686018427387904) (hl : L ≤ 16384) (hk : k = 4) :
    Calls Try.prog 46 #[.agg #[.int .i64 k, .int .u64 s, .int .u64 n, .int .i64 c, .int .i64 h, .slice a L cap]] w fun e w' => ∃ v, e = .returned v ∧ OwnBy w' w.heap.size v (encB k s n c h bs) ∧ Below w.heap.size w w' := by
  have HBY := hid hB
  have HLEN := hid hL
  have HZ := hid hz
  have HNS : Hid ((numB s.toNat).length ≤ 9) := numB_len 8 _ (by omega)
  have HNN : Hid ((numB n.toNat).length ≤ 9) := numB_len 8 _ (by omega)
  have HNL : Hid ((numB L).length ≤ 9) := numB_len 8 _ (by omega)
  have HK := hid (by8_ub (x := k) (by omega) (by omega))
  have HQ := hid (fat_new w k s n c h (.slice a L cap))
  have HBX := hid (below_new w (.cells #[.int .i64 k, .int .u64 s, .int .u64 n, .int .i64 c, .int .i64 h, .slice a L cap] 41))
  have HLS := hid (fun w => long_any w s hs0 (by omega))
  have HLN := hid (fun w => long_any w n hn0 (by omega))
  have HLL := hid (fun w => long_any w (L : Int) (by omega) (by omega))
  have H1 : Hid (LS w k s n c h (.slice a L cap) [by8 k] ((w.alloc (.cells #[.int .i64 k, .int .u64 s, .int .u64 n, .int .i64 c, .int .i64 h, .slice a L cap] 41)).alloc (.cells #[.int .u8 k] 5)) (.slice (some ⟨w.heap.size + 1, 0, none⟩) 1 1)) := by
    have hb := below_new (w.alloc (.cells #[.int .i64 k, .int .u64 s, .int .u64 n, .int .i64 c, .int .i64 h, .slice a L cap] 41)) (.cells #[.int .u8 k] 5)
    refine ⟨HQ.out.kept hb, ⟨rfl, .inr ⟨w.heap.size + 1, 1, #[.int .u8 k], rfl, Nat.le_refl _, ?_, Nat.le_refl _, by decide, rfl, ?_⟩⟩, HBX.out.trans (hb.mono HBX.out.size), by simp⟩
    · have := heap_alloc_last (w.alloc (.cells #[.int .i64 k, .int .u64 s, .int .u64 n, .int .i64 c, .int .i64 h, .slice a L cap] 41)) (.cells #[.int .u8 k] 5)
      simpa using this
    · show [Value.int .u8 k] = [bv (by8 k)]
      rw [bv, ← HK.out]
  obtain ⟨p0, p1, p2, p3, p4, p5⟩ := H1.out.f
  clear hB hL hz
  have hS0 : HasS k := by subst hk; decide
  have hN0 : ¬ HasN k := by subst hk; decide
  subst hk
  go_enter Try.func46, Try.ntmps46
  go_wp2_with (first | (at_builtin; refine wpAppendA (.tmp 16) (.tmp 19) rfl rfl (base := w.heap.size + 1) rfl (own_below H1.out.o HG1.out) (by have := H1.out.z; have := HG1.out.size; omega) rfl HZ1.out (bs := numB s.toNat) rfl HA1.out (by have := HNS.out; have := HNN.out; have := HNL.out; first | (simp; done) | (simp; omega)) ?_; intro w11 v11 h5 g5; have H2 := hid (H1.out.grow HG1.out (own_one h5.out rfl rfl) g5.out); clear h5 g5; obtain ⟨p0, p1, p2, p3, p4, p5⟩ := H2.out.f) | (go_at_call 60; have hx := H1; refine (HLS.out _).mono ?_; rintro e x1 ⟨vx, rfl, g5⟩; have HG1 := hid (Grew.below g5 rfl); obtain ⟨ax, cx, rfl, hA, _, _, hZ, _⟩ := ownBy_shape g5.1; have HA1 := hid hA; have HZ1 := hid hZ; clear g5 hx hA hZ; obtain ⟨p0, p1, p2, p3, p4, p5⟩ := H1.out.f.kept HG1.out))
  go_ret
  refine ⟨_, rfl, own_less (base := w.heap.size + 1) (b2 := w.heap.size) ?_ (by omega), H2.out.b⟩
  have ho := H2.out.o
  have e : encB 4 s n c h bs = [by8 4] ++ numB s.toNat := by unfold encB; rw [if_pos hS0, if_neg (by decide), if_neg (by decide), if_neg hN0]; simp
  rw [e]
  exact ho
set_option maxHeartbeats 2000000 in
theorem rtext_ping (w : World) (k s n c h : Int) (a : Option Addr) (bs : List (BitVec 8)) (L cap : Nat) (hB : BytesAt w a bs) (hL : bs.length = L) (hz : a = none → cap = 0) (hk0 : 1 ≤ k) (hk1 : k ≤ 9) (hs0 : 0 ≤ s) (hs1 : s ≤ 4611686018427387904) (hn0 : 0 ≤ n) (hn1 : n ≤ 4611686018427387904) (hl : L ≤ 16384) (hk : k = 7 ∨ k = 8) :
    Calls Try.prog 46 #[.agg #[.int .i64 k, .int .u64 s, .int .u64 n, .int .i64 c, .int .i64 h, .slice a L cap]] w fun e w' => ∃ v, e = .returned v ∧ OwnBy w' w.heap.size v (encB k s n c h bs) ∧ Below w.heap.size w w' := by
  have HBY := hid hB
  have HLEN := hid hL
  have HZ := hid hz
  have HNS : Hid ((numB s.toNat).length ≤ 9) := numB_len 8 _ (by omega)
  have HNN : Hid ((numB n.toNat).length ≤ 9) := numB_len 8 _ (by omega)
  have HNL : Hid ((numB L).length ≤ 9) := numB_len 8 _ (by omega)
  have HK := hid (by8_ub (x := k) (by omega) (by omega))
  have HQ := hid (fat_new w k s n c h (.slice a L cap))
  have HBX := hid (below_new w (.cells #[.int .i64 k, .int .u64 s, .int .u64 n, .int .i64 c, .int .i64 h, .slice a L cap] 41))
  have HLS := hid (fun w => long_any w s hs0 (by omega))
  have HLN := hid (fun w => long_any w n hn0 (by omega))
  have HLL := hid (fun w => long_any w (L : Int) (by omega) (by omega))
  have H1 : Hid (LS w k s n c h (.slice a L cap) [by8 k] ((w.alloc (.cells #[.int .i64 k, .int .u64 s, .int .u64 n, .int .i64 c, .int .i64 h, .slice a L cap] 41)).alloc (.cells #[.int .u8 k] 5)) (.slice (some ⟨w.heap.size + 1, 0, none⟩) 1 1)) := by
    have hb := below_new (w.alloc (.cells #[.int .i64 k, .int .u64 s, .int .u64 n, .int .i64 c, .int .i64 h, .slice a L cap] 41)) (.cells #[.int .u8 k] 5)
    refine ⟨HQ.out.kept hb, ⟨rfl, .inr ⟨w.heap.size + 1, 1, #[.int .u8 k], rfl, Nat.le_refl _, ?_, Nat.le_refl _, by decide, rfl, ?_⟩⟩, HBX.out.trans (hb.mono HBX.out.size), by simp⟩
    · have := heap_alloc_last (w.alloc (.cells #[.int .i64 k, .int .u64 s, .int .u64 n, .int .i64 c, .int .i64 h, .slice a L cap] 41)) (.cells #[.int .u8 k] 5)
      simpa using this
    · show [Value.int .u8 k] = [bv (by8 k)]
      rw [bv, ← HK.out]
  obtain ⟨p0, p1, p2, p3, p4, p5⟩ := H1.out.f
  clear hB hL hz
  have hS0 : ¬ HasS k := by unfold HasS; omega
  have hN0 : HasN k := by unfold HasN; omega
  rcases hk with hk | hk
  all_goals
    subst hk
    go_enter Try.func46, Try.ntmps46
    go_wp2_with (first | (at_builtin; refine wpAppendA (.tmp 54) (.tmp 57) rfl rfl (base := w.heap.size + 1) rfl (own_below H1.out.o HG1.out) (by have := H1.out.z; have := HG1.out.size; omega) rfl HZ1.out (bs := numB n.toNat) rfl HA1.out (by have := HNS.out; have := HNN.out; have := HNL.out; first | (simp; done) | (simp; omega)) ?_; intro w11 v11 h5 g5; have H2 := hid (H1.out.grow HG1.out (own_one h5.out rfl rfl) g5.out); clear h5 g5; obtain ⟨p0, p1, p2, p3, p4, p5⟩ := H2.out.f) | (go_at_call 60; have hx := H1; refine (HLN.out _).mono ?_; rintro e x1 ⟨vx, rfl, g5⟩; have HG1 := hid (Grew.below g5 rfl); obtain ⟨ax, cx, rfl, hA, _, _, hZ, _⟩ := ownBy_shape g5.1; have HA1 := hid hA; have HZ1 := hid hZ; clear g5 hx hA hZ; obtain ⟨p0, p1, p2, p3, p4, p5⟩ := H1.out.f.kept HG1.out))
    go_ret
    refine ⟨_, rfl, own_less (base := w.heap.size + 1) (b2 := w.heap.size) ?_ (by omega), H2.out.b⟩
    have ho := H2.out.o
    rw [enc_ping hS0 hN0]
    exact ho
end Go.Proofs.Ytkhogbnoincbeab
