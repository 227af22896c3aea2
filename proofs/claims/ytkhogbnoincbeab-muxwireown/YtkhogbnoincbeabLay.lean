import Derived.Test.YtkhogbnoincbeabMx4
namespace Go.Proofs.Ytkhogbnoincbeab
open Go.RowKit Go.Maps Go.Sort
set_option maxRecDepth 100000

def by8 (x : Int) : BitVec 8 := BitVec.ofNat 8 x.toNat
theorem by8_ub {x : Int} (h0 : 0 ≤ x) (h1 : x ≤ 255) : x = ub (by8 x) := ub_of x h0 (by omega)
/-- A frame's bytes. -/
def encB (k s n c h : Int) (bs : List (BitVec 8)) : List (BitVec 8) :=
  by8 k :: ((if HasS k then numB s.toNat else []) ++ (if k = 1 then [by8 c, by8 h] else if k = 2 then numB bs.length ++ bs else if HasN k then numB n.toNat else []))
theorem bytes_two (w : World) (x x' : Value) (y y' : BitVec 8) (hx : x = .int .u8 (ub y)) (hx' : x' = .int .u8 (ub y')) : BytesAt (w.alloc (.cells #[x, x'] 5)) (some ⟨w.heap.size, 0, none⟩) [y, y'] := by
  subst hx hx'
  exact (Row.new' w #[.int .u8 (ub y), .int .u8 (ub y')] (bcells [y, y']) 5 _ rfl rfl).bytes
/-- Where lay stands: a box with the frame, a row of its own. -/
structure LS (w : World) (k s n c h : Int) (d : Value) (cur : List (BitVec 8)) (W : World) (V : Value) : Prop where
  f : FAt W w.heap.size 0 k s n c h d
  o : OwnBy W (w.heap.size + 1) V cur
  b : Below w.heap.size w W
  z : w.heap.size + 1 ≤ W.heap.size
section
variable {w W W1 W2 : World} {k s n c h : Int} {d : Value} {cur l : List (BitVec 8)} {V V2 : Value}
theorem LS.grow (H : LS w k s n c h d cur W V) (hb : Below W.heap.size W W1) (hO : OwnBy W2 (w.heap.size + 1) V2 l) (hg : W1.grownBy W2 V.ownBlock ∧ (V2.ownBlock = V.ownBlock ∨ V2.ownBlock = some W1.heap.size)) : LS w k s n c h d l W2 V2 := by
  have hf : Fr (fun x => w.heap.size + 1 ≤ x) W1 W2 := Fr.of_grown hg.1 (fun x hx => .inl (own_ge H.o hx))
  exact ⟨(H.f.kept hb).fr hf (by omega), hO, (H.b.trans (hb.mono H.b.size)).trans (hf.below (fun x hx => by omega) (Nat.le_trans H.b.size hb.size)), Nat.le_trans H.z (Nat.le_trans hb.size hf.size)⟩
theorem LS.num (H : LS w k s n c h d cur W V) (hg : Grew (w.heap.size + 1) W V l W2 V2) : LS w k s n c h d l W2 V2 := by
  have hf : Fr (fun x => w.heap.size + 1 ≤ x) W W2 := hg.2.1.wider (fun x hx => own_ge H.o hx)
  exact ⟨H.f.fr hf (by omega), hg.1, H.b.trans (hf.below (fun x hx => by omega) H.b.size), Nat.le_trans H.z hf.size⟩
end
theorem own_one {w : World} {base : Nat} {v : Value} {l m : List (BitVec 8)} {k n : Nat} (h : w.ownsRow base 5 1 v (k + n) (bcells (l ++ m))) (hk : l.length = k) (hn : m.length = n) : OwnBy w base v (l ++ m) := by
  subst hk hn
  rw [← List.length_append] at h
  exact h
set_option maxHeartbeats 2000000 in
theorem lay_open (w : World) (k s n c h : Int) (a : Option Addr) (bs : List (BitVec 8)) (L cap : Nat) (hB : BytesAt w a bs) (hL : bs.length = L) (hz : a = none → cap = 0) (hk0 : 1 ≤ k) (hk1 : k ≤ 9) (hs0 : 0 ≤ s) (hs1 : s ≤ 4611686018427387904) (hn0 : 0 ≤ n) (hn1 : n ≤ 4611686018427387904) (hl : L ≤ 16384) (hk : k = 1) (hc0 : 0 ≤ c) (hc1 : c ≤ 7) (hh0 : 1 ≤ h) (hh1 : h ≤ 255) :
    Calls Try.prog 31 #[.agg #[.int .i64 k, .int .u64 s, .int .u64 n, .int .i64 c, .int .i64 h, .slice a L cap]] w fun e w' => ∃ v, e = .returned v ∧ OwnBy w' w.heap.size v (encB k s n c h bs) ∧ Below w.heap.size w w' := by
  obtain ⟨i, j1, j2, j3, j4⟩ := info5
  have HBY := hid hB
  have HLEN := hid hL
  have HZ := hid hz
  have HNS : Hid ((numB s.toNat).length ≤ 9) := numB_len 8 _ (by omega)
  have HNN : Hid ((numB n.toNat).length ≤ 9) := numB_len 8 _ (by omega)
  have HNL : Hid ((numB L).length ≤ 9) := numB_len 8 _ (by omega)
  have HK := hid (by8_ub (x := k) (by omega) (by omega))
  have HQ := hid (fat_new w k s n c h (.slice a L cap))
  have HBX := hid (below_new w (.cells #[.int .i64 k, .int .u64 s, .int .u64 n, .int .i64 c, .int .i64 h, .slice a L cap] 41))
  have HHS := hid (fun w => hasS_any w k)
  have HHN := hid (fun w => hasN_any w k)
  obtain ⟨w1, hmk, ho1, hg1⟩ := run_make_own (P := Try.prog) (w.alloc (.cells #[.int .i64 k, .int .u64 s, .int .u64 n, .int .i64 c, .int .i64 h, .slice a L cap] 41)) (w.heap.size + 1) 27 5 i _ 1 Try.underlying27 j1 j2 j3 .i64 .i64 (19 + L) (by rw [j4]; omega) (by unfold maxLen; omega) (by simp)
  have hb1 := (⟨hg1.os, hg1.tape, hg1.output, hg1.size, fun k hk => hg1.block k hk (by simp)⟩ : Below _ _ w1)
  have H0 := hid (LS.mk (HQ.out.kept hb1) (own_one (l := []) (m := []) ho1 rfl rfl) (HBX.out.trans (hb1.mono HBX.out.size)) (by have := hb1.size; simp at this; omega))
  rw [show ((19 + L : Nat) : Int) = 19 + (L : Int) by omega] at hmk
  generalize Value.slice (some ⟨(w.alloc (.cells #[.int .i64 k, .int .u64 s, .int .u64 n, .int .i64 c, .int .i64 h, .slice a L cap] 41)).heap.size, 0, none⟩) 0 (19 + L) = V0 at hmk H0
  obtain ⟨p0, p1, p2, p3, p4, p5⟩ := H0.out.f
  clear ho1 hg1 hb1 hB hL hz j1 j2 j3 j4
  have hS0 : HasS k := by subst hk; decide
  have hS : decide (HasS k) = true := decide_eq_true hS0
  have HC := hid (by8_ub (x := c) (by omega) (by omega))
  have HH := hid (by8_ub (x := h) (by omega) (by omega))
  have hkb : (k == 1) = true := by simp [hk]
  have HKK := hid hk
  clear hk
  go_enter Try.func31, Try.ntmps31
  go_wp2_with (first | (go_at_call 50; refine (HHS.out _).mono ?_; rintro e w' ⟨rfl, rfl⟩) | (go_at_call 52; refine (HHN.out _).mono ?_; rintro e w' ⟨rfl, rfl⟩) | (at_builtin; refine wpAppendA (.tmp 26) (.tmp 33) rfl rfl (base := w.heap.size + 1) rfl (own_below H2.out.o (below_new _ _)) (by have := H2.out.z; simp; omega) rfl (fun e => by cases e) (bs := [by8 c, by8 h]) rfl (bytes_two _ _ _ (by8 c) (by8 h) (by rw [← HC.out]) (by rw [← HH.out])) (by have := HNS.out; have := HNN.out; have := HNL.out; first | (simp; done) | (simp; omega)) ?_; intro w12 v12 h5 g5; have H3 := hid (H2.out.grow (below_new _ _) (own_one h5.out rfl rfl) g5.out); clear h5 g5; obtain ⟨p0, p1, p2, p3, p4, p5⟩ := H3.out.f) | (go_at_call 51; have hx := H1; refine (number_app _ (w.heap.size + 1) _ _ _ H1.out.o (by have := H1.out.z; omega) (by omega) (by omega) (by have := HNS.out; have := HNN.out; have := HNL.out; first | (simp; done) | (simp; omega))).mono ?_; rintro e w11 ⟨v11, rfl, g5⟩; have H2 := hid (H1.out.num g5); clear g5 hx; obtain ⟨p0, p1, p2, p3, p4, p5⟩ := H2.out.f) | (at_builtin; refine wpAppendA (.tmp 9) (.tmp 13) rfl rfl (base := w.heap.size + 1) rfl (own_below H0.out.o (below_new _ _)) (by have := H0.out.z; simp; omega) rfl (fun e => by cases e) (bs := [by8 k]) rfl (bytes_one _ _ (by8 k) (by rw [← HK.out])) (by have := HNS.out; have := HNN.out; have := HNL.out; first | (simp; done) | (simp; omega)) ?_; intro w10 v10 h5 g5; have H1 := hid (H0.out.grow (below_new _ _) (own_one h5.out rfl rfl) g5.out); clear h5 g5; obtain ⟨p0, p1, p2, p3, p4, p5⟩ := H1.out.f))
  go_ret
  refine ⟨_, rfl, own_less (base := w.heap.size + 1) (b2 := w.heap.size) ?_ (by omega), H3.out.b⟩
  have ho := H3.out.o
  have e : encB k s n c h bs = [] ++ [] ++ [by8 k] ++ numB s.toNat ++ [by8 c, by8 h] := by unfold encB; rw [if_pos hS0, if_pos HKK.out]; simp
  rw [e]
  exact ho
set_option maxHeartbeats 2000000 in
theorem lay_bytes (w : World) (k s n c h : Int) (a : Option Addr) (bs : List (BitVec 8)) (L cap : Nat) (hB : BytesAt w a bs) (hL : bs.length = L) (hz : a = none → cap = 0) (hk0 : 1 ≤ k) (hk1 : k ≤ 9) (hs0 : 0 ≤ s) (hs1 : s ≤ 4611686018427387904) (hn0 : 0 ≤ n) (hn1 : n ≤ 4611686018427387904) (hl : L ≤ 16384) (hk : k = 2) :
    Calls Try.prog 31 #[.agg #[.int .i64 k, .int .u64 s, .int .u64 n, .int .i64 c, .int .i64 h, .slice a L cap]] w fun e w' => ∃ v, e = .returned v ∧ OwnBy w' w.heap.size v (encB k s n c h bs) ∧ Below w.heap.size w w' := by
  obtain ⟨i, j1, j2, j3, j4⟩ := info5
  have HBY := hid hB
  have HLEN := hid hL
  have HZ := hid hz
  have HNS : Hid ((numB s.toNat).length ≤ 9) := numB_len 8 _ (by omega)
  have HNN : Hid ((numB n.toNat).length ≤ 9) := numB_len 8 _ (by omega)
  have HNL : Hid ((numB L).length ≤ 9) := numB_len 8 _ (by omega)
  have HK := hid (by8_ub (x := k) (by omega) (by omega))
  have HQ := hid (fat_new w k s n c h (.slice a L cap))
  have HBX := hid (below_new w (.cells #[.int .i64 k, .int .u64 s, .int .u64 n, .int .i64 c, .int .i64 h, .slice a L cap] 41))
  have HHS := hid (fun w => hasS_any w k)
  have HHN := hid (fun w => hasN_any w k)
  obtain ⟨w1, hmk, ho1, hg1⟩ := run_make_own (P := Try.prog) (w.alloc (.cells #[.int .i64 k, .int .u64 s, .int .u64 n, .int .i64 c, .int .i64 h, .slice a L cap] 41)) (w.heap.size + 1) 27 5 i _ 1 Try.underlying27 j1 j2 j3 .i64 .i64 (19 + L) (by rw [j4]; omega) (by unfold maxLen; omega) (by simp)
  have hb1 := (⟨hg1.os, hg1.tape, hg1.output, hg1.size, fun k hk => hg1.block k hk (by simp)⟩ : Below _ _ w1)
  have H0 := hid (LS.mk (HQ.out.kept hb1) (own_one (l := []) (m := []) ho1 rfl rfl) (HBX.out.trans (hb1.mono HBX.out.size)) (by have := hb1.size; simp at this; omega))
  rw [show ((19 + L : Nat) : Int) = 19 + (L : Int) by omega] at hmk
  generalize Value.slice (some ⟨(w.alloc (.cells #[.int .i64 k, .int .u64 s, .int .u64 n, .int .i64 c, .int .i64 h, .slice a L cap] 41)).heap.size, 0, none⟩) 0 (19 + L) = V0 at hmk H0
  obtain ⟨p0, p1, p2, p3, p4, p5⟩ := H0.out.f
  clear ho1 hg1 hb1 hB hL hz j1 j2 j3 j4
  have hS0 : HasS k := by subst hk; decide
  have hS : decide (HasS k) = true := decide_eq_true hS0
  have hkb : (k == 1) = false := by simp [hk]
  have hkc : (k == 2) = true := by simp [hk]
  have HKK := hid hk
  clear hk
  go_enter Try.func31, Try.ntmps31
  go_wp2_with (first | (go_at_call 50; refine (HHS.out _).mono ?_; rintro e w' ⟨rfl, rfl⟩) | (go_at_call 52; refine (HHN.out _).mono ?_; rintro e w' ⟨rfl, rfl⟩) | (at_builtin; refine wpAppendA (.tmp 45) (.tmp 47) rfl rfl (base := w.heap.size + 1) rfl H3.out.o (by have := H3.out.z; omega) rfl HZ.out (bs := bs) HLEN.out (HBY.out.kept H3.out.b) (by have := HNS.out; have := HNN.out; have := HNL.out; first | (simp; done) | (simp; omega)) ?_; intro w13 v13 h5 g5; have H4 := hid (H3.out.grow (Below.refl _ _) (own_one h5.out rfl HLEN.out) g5.out); clear h5 g5; obtain ⟨p0, p1, p2, p3, p4, p5⟩ := H4.out.f) | (go_at_call 51; have hx := H2; refine (number_app _ (w.heap.size + 1) _ _ _ H2.out.o (by have := H2.out.z; omega) (by omega) (by omega) (by have := HNS.out; have := HNN.out; have := HNL.out; first | (simp; done) | (simp; omega))).mono ?_; rintro e w12 ⟨v12, rfl, g5⟩; have H3 := hid (H2.out.num g5); clear g5 hx; obtain ⟨p0, p1, p2, p3, p4, p5⟩ := H3.out.f) | (go_at_call 51; have hx := H1; refine (number_app _ (w.heap.size + 1) _ _ _ H1.out.o (by have := H1.out.z; omega) (by omega) (by omega) (by have := HNS.out; have := HNN.out; have := HNL.out; first | (simp; done) | (simp; omega))).mono ?_; rintro e w11 ⟨v11, rfl, g5⟩; have H2 := hid (H1.out.num g5); clear g5 hx; obtain ⟨p0, p1, p2, p3, p4, p5⟩ := H2.out.f) | (at_builtin; refine wpAppendA (.tmp 9) (.tmp 13) rfl rfl (base := w.heap.size + 1) rfl (own_below H0.out.o (below_new _ _)) (by have := H0.out.z; simp; omega) rfl (fun e => by cases e) (bs := [by8 k]) rfl (bytes_one _ _ (by8 k) (by rw [← HK.out])) (by have := HNS.out; have := HNN.out; have := HNL.out; first | (simp; done) | (simp; omega)) ?_; intro w10 v10 h5 g5; have H1 := hid (H0.out.grow (below_new _ _) (own_one h5.out rfl rfl) g5.out); clear h5 g5; obtain ⟨p0, p1, p2, p3, p4, p5⟩ := H1.out.f))
  go_ret
  refine ⟨_, rfl, own_less (base := w.heap.size + 1) (b2 := w.heap.size) ?_ (by omega), H4.out.b⟩
  have ho := H4.out.o
  have e : encB k s n c h bs = [] ++ [] ++ [by8 k] ++ numB s.toNat ++ numB L ++ bs := by unfold encB; rw [if_pos hS0, if_neg (show ¬ k = 1 by rw [HKK.out]; decide), if_pos HKK.out, HLEN.out]; simp
  rw [e]
  exact ho
set_option maxHeartbeats 2000000 in
theorem lay_both (w : World) (k s n c h : Int) (a : Option Addr) (bs : List (BitVec 8)) (L cap : Nat) (hB : BytesAt w a bs) (hL : bs.length = L) (hz : a = none → cap = 0) (hk0 : 1 ≤ k) (hk1 : k ≤ 9) (hs0 : 0 ≤ s) (hs1 : s ≤ 4611686018427387904) (hn0 : 0 ≤ n) (hn1 : n ≤ 4611686018427387904) (hl : L ≤ 16384) (hS0 : HasS k) (hN0 : HasN k) :
    Calls Try.prog 31 #[.agg #[.int .i64 k, .int .u64 s, .int .u64 n, .int .i64 c, .int .i64 h, .slice a L cap]] w fun e w' => ∃ v, e = .returned v ∧ OwnBy w' w.heap.size v (encB k s n c h bs) ∧ Below w.heap.size w w' := by
  obtain ⟨i, j1, j2, j3, j4⟩ := info5
  have HBY := hid hB
  have HLEN := hid hL
  have HZ := hid hz
  have HNS : Hid ((numB s.toNat).length ≤ 9) := numB_len 8 _ (by omega)
  have HNN : Hid ((numB n.toNat).length ≤ 9) := numB_len 8 _ (by omega)
  have HNL : Hid ((numB L).length ≤ 9) := numB_len 8 _ (by omega)
  have HK := hid (by8_ub (x := k) (by omega) (by omega))
  have HQ := hid (fat_new w k s n c h (.slice a L cap))
  have HBX := hid (below_new w (.cells #[.int .i64 k, .int .u64 s, .int .u64 n, .int .i64 c, .int .i64 h, .slice a L cap] 41))
  have HHS := hid (fun w => hasS_any w k)
  have HHN := hid (fun w => hasN_any w k)
  obtain ⟨w1, hmk, ho1, hg1⟩ := run_make_own (P := Try.prog) (w.alloc (.cells #[.int .i64 k, .int .u64 s, .int .u64 n, .int .i64 c, .int .i64 h, .slice a L cap] 41)) (w.heap.size + 1) 27 5 i _ 1 Try.underlying27 j1 j2 j3 .i64 .i64 (19 + L) (by rw [j4]; omega) (by unfold maxLen; omega) (by simp)
  have hb1 := (⟨hg1.os, hg1.tape, hg1.output, hg1.size, fun k hk => hg1.block k hk (by simp)⟩ : Below _ _ w1)
  have H0 := hid (LS.mk (HQ.out.kept hb1) (own_one (l := []) (m := []) ho1 rfl rfl) (HBX.out.trans (hb1.mono HBX.out.size)) (by have := hb1.size; simp at this; omega))
  rw [show ((19 + L : Nat) : Int) = 19 + (L : Int) by omega] at hmk
  generalize Value.slice (some ⟨(w.alloc (.cells #[.int .i64 k, .int .u64 s, .int .u64 n, .int .i64 c, .int .i64 h, .slice a L cap] 41)).heap.size, 0, none⟩) 0 (19 + L) = V0 at hmk H0
  obtain ⟨p0, p1, p2, p3, p4, p5⟩ := H0.out.f
  clear ho1 hg1 hb1 hB hL hz j1 j2 j3 j4
  have hS : decide (HasS k) = true := decide_eq_true hS0
  have hN : decide (HasN k) = true := decide_eq_true hN0
  have hkb : (k == 1) = false := by simpa using hN0.1
  have hkc : (k == 2) = false := by simpa using hN0.2.1
  go_enter Try.func31, Try.ntmps31
  go_wp2_with (first | (go_at_call 50; refine (HHS.out _).mono ?_; rintro e w' ⟨rfl, rfl⟩) | (go_at_call 52; refine (HHN.out _).mono ?_; rintro e w' ⟨rfl, rfl⟩) | (go_at_call 51; have hx := H2; refine (number_app _ (w.heap.size + 1) _ _ _ H2.out.o (by have := H2.out.z; omega) (by omega) (by omega) (by have := HNS.out; have := HNN.out; have := HNL.out; first | (simp; done) | (simp; omega))).mono ?_; rintro e w12 ⟨v12, rfl, g5⟩; have H3 := hid (H2.out.num g5); clear g5 hx; obtain ⟨p0, p1, p2, p3, p4, p5⟩ := H3.out.f) | (go_at_call 51; have hx := H1; refine (number_app _ (w.heap.size + 1) _ _ _ H1.out.o (by have := H1.out.z; omega) (by omega) (by omega) (by have := HNS.out; have := HNN.out; have := HNL.out; first | (simp; done) | (simp; omega))).mono ?_; rintro e w11 ⟨v11, rfl, g5⟩; have H2 := hid (H1.out.num g5); clear g5 hx; obtain ⟨p0, p1, p2, p3, p4, p5⟩ := H2.out.f) | (at_builtin; refine wpAppendA (.tmp 9) (.tmp 13) rfl rfl (base := w.heap.size + 1) rfl (own_below H0.out.o (below_new _ _)) (by have := H0.out.z; simp; omega) rfl (fun e => by cases e) (bs := [by8 k]) rfl (bytes_one _ _ (by8 k) (by rw [← HK.out])) (by have := HNS.out; have := HNN.out; have := HNL.out; first | (simp; done) | (simp; omega)) ?_; intro w10 v10 h5 g5; have H1 := hid (H0.out.grow (below_new _ _) (own_one h5.out rfl rfl) g5.out); clear h5 g5; obtain ⟨p0, p1, p2, p3, p4, p5⟩ := H1.out.f))
  go_ret
  refine ⟨_, rfl, own_less (base := w.heap.size + 1) (b2 := w.heap.size) ?_ (by omega), H3.out.b⟩
  have ho := H3.out.o
  have e : encB k s n c h bs = [] ++ [] ++ [by8 k] ++ numB s.toNat ++ numB n.toNat := by unfold encB; rw [if_pos hS0, if_neg hN0.1, if_neg hN0.2.1, if_pos hN0]; simp
  rw [e]
  exact ho
set_option maxHeartbeats 2000000 in
theorem lay_end (w : World) (k s n c h : Int) (a : Option Addr) (bs : List (BitVec 8)) (L cap : Nat) (hB : BytesAt w a bs) (hL : bs.length = L) (hz : a = none → cap = 0) (hk0 : 1 ≤ k) (hk1 : k ≤ 9) (hs0 : 0 ≤ s) (hs1 : s ≤ 4611686018427387904) (hn0 : 0 ≤ n) (hn1 : n ≤ 4611686018427387904) (hl : L ≤ 16384) (hk : k = 4) :
    Calls Try.prog 31 #[.agg #[.int .i64 k, .int .u64 s, .int .u64 n, .int .i64 c, .int .i64 h, .slice a L cap]] w fun e w' => ∃ v, e = .returned v ∧ OwnBy w' w.heap.size v (encB k s n c h bs) ∧ Below w.heap.size w w' := by
  obtain ⟨i, j1, j2, j3, j4⟩ := info5
  have HBY := hid hB
  have HLEN := hid hL
  have HZ := hid hz
  have HNS : Hid ((numB s.toNat).length ≤ 9) := numB_len 8 _ (by omega)
  have HNN : Hid ((numB n.toNat).length ≤ 9) := numB_len 8 _ (by omega)
  have HNL : Hid ((numB L).length ≤ 9) := numB_len 8 _ (by omega)
  have HK := hid (by8_ub (x := k) (by omega) (by omega))
  have HQ := hid (fat_new w k s n c h (.slice a L cap))
  have HBX := hid (below_new w (.cells #[.int .i64 k, .int .u64 s, .int .u64 n, .int .i64 c, .int .i64 h, .slice a L cap] 41))
  have HHS := hid (fun w => hasS_any w k)
  have HHN := hid (fun w => hasN_any w k)
  obtain ⟨w1, hmk, ho1, hg1⟩ := run_make_own (P := Try.prog) (w.alloc (.cells #[.int .i64 k, .int .u64 s, .int .u64 n, .int .i64 c, .int .i64 h, .slice a L cap] 41)) (w.heap.size + 1) 27 5 i _ 1 Try.underlying27 j1 j2 j3 .i64 .i64 (19 + L) (by rw [j4]; omega) (by unfold maxLen; omega) (by simp)
  have hb1 := (⟨hg1.os, hg1.tape, hg1.output, hg1.size, fun k hk => hg1.block k hk (by simp)⟩ : Below _ _ w1)
  have H0 := hid (LS.mk (HQ.out.kept hb1) (own_one (l := []) (m := []) ho1 rfl rfl) (HBX.out.trans (hb1.mono HBX.out.size)) (by have := hb1.size; simp at this; omega))
  rw [show ((19 + L : Nat) : Int) = 19 + (L : Int) by omega] at hmk
  generalize Value.slice (some ⟨(w.alloc (.cells #[.int .i64 k, .int .u64 s, .int .u64 n, .int .i64 c, .int .i64 h, .slice a L cap] 41)).heap.size, 0, none⟩) 0 (19 + L) = V0 at hmk H0
  obtain ⟨p0, p1, p2, p3, p4, p5⟩ := H0.out.f
  clear ho1 hg1 hb1 hB hL hz j1 j2 j3 j4
  have hS0 : HasS k := by subst hk; decide
  have hN0 : ¬ HasN k := by subst hk; decide
  have hS : decide (HasS k) = true := decide_eq_true hS0
  have hN : decide (HasN k) = false := decide_eq_false hN0
  have hkb : (k == 1) = false := by simp [hk]
  have hkc : (k == 2) = false := by simp [hk]
  have HKK := hid hk
  clear hk
  go_enter Try.func31, Try.ntmps31
  go_wp2_with (first | (go_at_call 50; refine (HHS.out _).mono ?_; rintro e w' ⟨rfl, rfl⟩) | (go_at_call 52; refine (HHN.out _).mono ?_; rintro e w' ⟨rfl, rfl⟩) | (go_at_call 51; have hx := H1; refine (number_app _ (w.heap.size + 1) _ _ _ H1.out.o (by have := H1.out.z; omega) (by omega) (by omega) (by have := HNS.out; have := HNN.out; have := HNL.out; first | (simp; done) | (simp; omega))).mono ?_; rintro e w11 ⟨v11, rfl, g5⟩; have H2 := hid (H1.out.num g5); clear g5 hx; obtain ⟨p0, p1, p2, p3, p4, p5⟩ := H2.out.f) | (at_builtin; refine wpAppendA (.tmp 9) (.tmp 13) rfl rfl (base := w.heap.size + 1) rfl (own_below H0.out.o (below_new _ _)) (by have := H0.out.z; simp; omega) rfl (fun e => by cases e) (bs := [by8 k]) rfl (bytes_one _ _ (by8 k) (by rw [← HK.out])) (by have := HNS.out; have := HNN.out; have := HNL.out; first | (simp; done) | (simp; omega)) ?_; intro w10 v10 h5 g5; have H1 := hid (H0.out.grow (below_new _ _) (own_one h5.out rfl rfl) g5.out); clear h5 g5; obtain ⟨p0, p1, p2, p3, p4, p5⟩ := H1.out.f))
  go_ret
  refine ⟨_, rfl, own_less (base := w.heap.size + 1) (b2 := w.heap.size) ?_ (by omega), H2.out.b⟩
  have ho := H2.out.o
  have e : encB k s n c h bs = [] ++ [] ++ [by8 k] ++ numB s.toNat := by unfold encB; rw [if_pos hS0, if_neg (show ¬ k = 1 by rw [HKK.out]; decide), if_neg (show ¬ k = 2 by rw [HKK.out]; decide), if_neg hN0]; simp
  rw [e]
  exact ho
set_option maxHeartbeats 2000000 in
theorem lay_ping (w : World) (k s n c h : Int) (a : Option Addr) (bs : List (BitVec 8)) (L cap : Nat) (hB : BytesAt w a bs) (hL : bs.length = L) (hz : a = none → cap = 0) (hk0 : 1 ≤ k) (hk1 : k ≤ 9) (hs0 : 0 ≤ s) (hs1 : s ≤ 4611686018427387904) (hn0 : 0 ≤ n) (hn1 : n ≤ 4611686018427387904) (hl : L ≤ 16384) (hS0 : ¬ HasS k) (hN0 : HasN k) :
    Calls Try.prog 31 #[.agg #[.int .i64 k, .int .u64 s, .int .u64 n, .int .i64 c, .int .i64 h, .slice a L cap]] w fun e w' => ∃ v, e = .returned v ∧ OwnBy w' w.heap.size v (encB k s n c h bs) ∧ Below w.heap.size w w' := by
  obtain ⟨i, j1, j2, j3, j4⟩ := info5
  have HBY := hid hB
  have HLEN := hid hL
  have HZ := hid hz
  have HNS : Hid ((numB s.toNat).length ≤ 9) := numB_len 8 _ (by omega)
  have HNN : Hid ((numB n.toNat).length ≤ 9) := numB_len 8 _ (by omega)
  have HNL : Hid ((numB L).length ≤ 9) := numB_len 8 _ (by omega)
  have HK := hid (by8_ub (x := k) (by omega) (by omega))
  have HQ := hid (fat_new w k s n c h (.slice a L cap))
  have HBX := hid (below_new w (.cells #[.int .i64 k, .int .u64 s, .int .u64 n, .int .i64 c, .int .i64 h, .slice a L cap] 41))
  have HHS := hid (fun w => hasS_any w k)
  have HHN := hid (fun w => hasN_any w k)
  obtain ⟨w1, hmk, ho1, hg1⟩ := run_make_own (P := Try.prog) (w.alloc (.cells #[.int .i64 k, .int .u64 s, .int .u64 n, .int .i64 c, .int .i64 h, .slice a L cap] 41)) (w.heap.size + 1) 27 5 i _ 1 Try.underlying27 j1 j2 j3 .i64 .i64 (19 + L) (by rw [j4]; omega) (by unfold maxLen; omega) (by simp)
  have hb1 := (⟨hg1.os, hg1.tape, hg1.output, hg1.size, fun k hk => hg1.block k hk (by simp)⟩ : Below _ _ w1)
  have H0 := hid (LS.mk (HQ.out.kept hb1) (own_one (l := []) (m := []) ho1 rfl rfl) (HBX.out.trans (hb1.mono HBX.out.size)) (by have := hb1.size; simp at this; omega))
  rw [show ((19 + L : Nat) : Int) = 19 + (L : Int) by omega] at hmk
  generalize Value.slice (some ⟨(w.alloc (.cells #[.int .i64 k, .int .u64 s, .int .u64 n, .int .i64 c, .int .i64 h, .slice a L cap] 41)).heap.size, 0, none⟩) 0 (19 + L) = V0 at hmk H0
  obtain ⟨p0, p1, p2, p3, p4, p5⟩ := H0.out.f
  clear ho1 hg1 hb1 hB hL hz j1 j2 j3 j4
  have hS : decide (HasS k) = false := decide_eq_false hS0
  have hN : decide (HasN k) = true := decide_eq_true hN0
  have hkb : (k == 1) = false := by simpa using hN0.1
  have hkc : (k == 2) = false := by simpa using hN0.2.1
  go_enter Try.func31, Try.ntmps31
  go_wp2_with (first | (go_at_call 50; refine (HHS.out _).mono ?_; rintro e w' ⟨rfl, rfl⟩) | (go_at_call 52; refine (HHN.out _).mono ?_; rintro e w' ⟨rfl, rfl⟩) | (go_at_call 51; have hx := H1; refine (number_app _ (w.heap.size + 1) _ _ _ H1.out.o (by have := H1.out.z; omega) (by omega) (by omega) (by have := HNS.out; have := HNN.out; have := HNL.out; first | (simp; done) | (simp; omega))).mono ?_; rintro e w11 ⟨v11, rfl, g5⟩; have H2 := hid (H1.out.num g5); clear g5 hx; obtain ⟨p0, p1, p2, p3, p4, p5⟩ := H2.out.f) | (at_builtin; refine wpAppendA (.tmp 9) (.tmp 13) rfl rfl (base := w.heap.size + 1) rfl (own_below H0.out.o (below_new _ _)) (by have := H0.out.z; simp; omega) rfl (fun e => by cases e) (bs := [by8 k]) rfl (bytes_one _ _ (by8 k) (by rw [← HK.out])) (by have := HNS.out; have := HNN.out; have := HNL.out; first | (simp; done) | (simp; omega)) ?_; intro w10 v10 h5 g5; have H1 := hid (H0.out.grow (below_new _ _) (own_one h5.out rfl rfl) g5.out); clear h5 g5; obtain ⟨p0, p1, p2, p3, p4, p5⟩ := H1.out.f))
  go_ret
  refine ⟨_, rfl, own_less (base := w.heap.size + 1) (b2 := w.heap.size) ?_ (by omega), H2.out.b⟩
  have ho := H2.out.o
  have e : encB k s n c h bs = [] ++ [] ++ [by8 k] ++ numB n.toNat := by unfold encB; rw [if_neg hS0, if_neg hN0.1, if_neg hN0.2.1, if_pos hN0]; simp
  rw [e]
  exact ho
end Go.Proofs.Ytkhogbnoincbeab
