import Derived.Test.YtjhkoanjocdboaaDoorLin1
namespace Go.Proofs.YtjhkoanjocdboaaDoor
open Go.RowKit
set_option maxRecDepth 100000

theorem pt_new {w : World} {ad : Option Addr} {n c : Nat} {X : List (BitVec 8)} (hB : BytesAt w ad X) (hl : X.length = n) (hn : n ≤ 281474976710656) : Pt (.slice (some ⟨w.heap.size, 0, none⟩) 1 1) X (w.alloc (.cells #[.slice ad n c] 24)) := by
  subst hl
  refine ⟨w.heap.size, rfl, ?_⟩
  intro j hj
  have : j = 0 := by simpa using hj
  subst this
  exact ⟨w.heap.size, 0, ad, c, rfl, by simp, hB.kept ((Below.refl _ _).alloc (Nat.le_refl _) _), hn⟩
theorem crc_pt {w : World} {q : Nat} {X : List (BitVec 8)} (hp : PartsAt w (some ⟨q, 0, none⟩) [X]) (hc : CrcTab w) : Calls Tryd.prog 11 #[.slice (some ⟨q, 0, none⟩) 1 1] w fun e w' => e = .returned (cv X) ∧ w' = w := by
  have := crc_any (cap := 1) hp hc (by simp)
  rw [show [X].flatten = X by simp] at this
  exact this
theorem bytes_take {w : World} {a : Option Addr} {c n : Nat} {x : List (BitVec 8)} (h : BytesAt w a x) : BytesAt w (if c = 0 then a else a.map (·.add 0)) (x.take n) := by
  intro k hk
  have hkx : k < x.length := by
    rw [List.length_take] at hk
    omega
  obtain ⟨g, o, rfl, e⟩ := h k hkx
  refine ⟨g, o, ?_, ?_⟩
  · split
    · rfl
    · simp [Addr.add]
  · rw [e, List.getElem_take]

set_option maxHeartbeats 4000000 in
theorem linear_any {w : World} {a1 a2 a3 : Option Addr} {c1 c2 c3 : Nat} {x y z : List (BitVec 8)} (hB1 : BytesAt w a1 x) (hB2 : BytesAt w a2 y) (hB3 : BytesAt w a3 z) (l1 : x.length ≤ c1) (l2 : y.length ≤ c2) (l3 : z.length ≤ c3) (m1 : c1 ≤ 140737488355328) (m2 : c2 ≤ 140737488355328) (m3 : c3 ≤ 140737488355328)
    (hK : KTab w) (hC : CrcTab w) (h2 : 2 ≤ w.heap.size) :
    Calls Tryd.prog 6 #[.slice a1 x.length c1, .slice a2 y.length c2, .slice a3 z.length c3] w fun e w' => e = .returned (.bool true) ∧ Below w.heap.size w w' := by
  obtain ⟨n, hn⟩ : ∃ n, n = min (min x.length y.length) z.length := ⟨_, rfl⟩
  have hmin : min (min (x.length : Int) (y.length : Int)) (z.length : Int) = (n : Int) := by omega
  have hnb : (n : Int) ≤ 140737488355328 := by omega
  have HN1 : Hid (n ≤ x.length) := by show _ ≤ _; omega
  have HN2 : Hid (n ≤ y.length) := by show _ ≤ _; omega
  have HN3 : Hid (n ≤ z.length) := by show _ ≤ _; omega
  have HL1 := hid l1
  have HL2 := hid l2
  have HL3 := hid l3
  have HM1 := hid m1
  have HM2 := hid m2
  have HM3 := hid m3
  have HB1 := hid hB1
  have HB2 := hid hB2
  have HB3 := hid hB3
  have HK := hid hK
  have HC := hid hC
  have H2 := hid h2
  have hx1 : (x.length : Int) ≤ 140737488355328 := by omega
  have hx2 : (y.length : Int) ≤ 140737488355328 := by omega
  have hx3 : (z.length : Int) ≤ 140737488355328 := by omega
  clear hB1 hB2 hB3 l1 l2 l3 m1 m2 m3 hK hC h2 hn
  go_enter Tryd.func6, Tryd.ntmps6
  go_wp2_with (at_make; refine wpMakeB (.tmp 17) (.tmp 17) .i64 n rfl rfl rfl rfl (by omega) ?_; intro w1 HW)
  have HR1 : Hid (Row w1 w.heap.size (bcells (x3 x y z n 0)) 5) := by show Row _ _ _ _; rw [HW.out, x3_zero]; exact Row.new _ _ _
  have HBw1 : Hid (Below w.heap.size w w1) := by show Below _ _ _; rw [HW.out]; exact (Below.refl _ _).alloc (Nat.le_refl _) _
  clear HW
  obtain ⟨g, hg⟩ : ∃ g, g = w.heap.size := ⟨_, rfl⟩
  have HG := hid hg
  rw [← hg] at HR1
  rw [← hg]
  clear hg
  go_loopw [9] (fun i wr => ∃ k : Nat, k ≤ n ∧ i = .int .i64 k ∧ Row wr g (bcells (x3 x y z n k)) 5 ∧ Below w.heap.size w wr) (fun i _ => n - (intOf i).toNat)
  case atStart => exact ⟨0, Nat.zero_le _, rfl, HR1.out, HBw1.out⟩
  case round =>
    clear HR1 HBw1
    obtain ⟨k, hk, rfl, hR, hb⟩ := hrel
    by_cases hlt : k < n
    · obtain ⟨g1, o1, rfl, d1⟩ := HB1.out k (Nat.lt_of_lt_of_le hlt HN1.out)
      obtain ⟨g2, o2, rfl, d2⟩ := HB2.out k (Nat.lt_of_lt_of_le hlt HN2.out)
      obtain ⟨g3, o3, rfl, d3⟩ := HB3.out k (Nat.lt_of_lt_of_le hlt HN3.out)
      have e1 := cell_kept hb d1
      have e2 := cell_kept hb d2
      have e3 := cell_kept hb d3
      have hki : (k : Int) < (n : Int) := by omega
      have hk1 : (k : Int) < (x.length : Int) := by have := HN1.out; omega
      have hk2 : (k : Int) < (y.length : Int) := by have := HN2.out; omega
      have hk3 : (k : Int) < (z.length : Int) := by have := HN3.out; omega
      have HS := hid (x3_set x y z n k hlt)
      have q1 : x[k]'(Nat.lt_of_lt_of_le hlt HN1.out) = x.getD k 0 := by simp [List.getD, List.getElem?_eq_getElem (Nat.lt_of_lt_of_le hlt HN1.out)]
      have q2 : y[k]'(Nat.lt_of_lt_of_le hlt HN2.out) = y.getD k 0 := by simp [List.getD, List.getElem?_eq_getElem (Nat.lt_of_lt_of_le hlt HN2.out)]
      have q3 : z[k]'(Nat.lt_of_lt_of_le hlt HN3.out) = z.getD k 0 := by simp [List.getD, List.getElem?_eq_getElem (Nat.lt_of_lt_of_le hlt HN3.out)]
      rw [q1] at e1
      rw [q2] at e2
      rw [q3] at e3
      obtain ⟨v0, c0⟩ : ∃ v0, wr.cell? ⟨g, k, none⟩ = some v0 := ⟨_, hR.cell k _ (bcells_get (by rw [x3_len]; exact hlt))⟩
      have f0 := hR.frozen k
      clear q1 q2 q3 d1 d2 d3
      have HR := hid hR
      have HB := hid hb
      have HLT := hid hlt
      clear hR hb hk hlt
      generalize x.getD k 0 = xk at *
      generalize y.getD k 0 = yk at *
      generalize z.getD k 0 = zk at *
      go_wp2
      go_region
      go_wp2
      go_roundw
      case rel =>
        refine ⟨k + 1, HLT.out, by go_num, ?_, below_drawn (HB.out.setCell (p := ⟨g, k, none⟩) (Nat.le_of_eq HG.out.symm) _) _⟩
        have := HR.out.set k (.int .u8 (ub (xk ^^^ yk ^^^ zk)))
        rw [bcells_set, HS.out] at this
        exact ⟨this.at_⟩
      case measure =>
        have := HLT.out
        simp [intOf]
        omega
    · have e : k = n := by omega
      subst e
      have HX : Hid (BytesAt wr (some ⟨g, 0, none⟩) (x3 x y z k k)) := Row.bytesAt hR
      have HXC := hid (crc_x3 x y z k HN1.out HN2.out HN3.out)
      have HLA : Hid ((x.take k).length = k) := by show _ = _; rw [List.length_take]; have := HN1.out; omega
      have HLB : Hid ((y.take k).length = k) := by show _ = _; rw [List.length_take]; have := HN2.out; omega
      have HLC : Hid ((z.take k).length = k) := by show _ = _; rw [List.length_take]; have := HN3.out; omega
      have HLX := hid (x3_len x y z k k)
      have HT1 : Hid (∀ c, BytesAt wr (if c = 0 then a1 else a1.map (·.add 0)) (x.take k)) := fun c => bytes_take (HB1.out.kept hb)
      have HT2 : Hid (∀ c, BytesAt wr (if c = 0 then a2 else a2.map (·.add 0)) (y.take k)) := fun c => bytes_take (HB2.out.kept hb)
      have HT3 : Hid (∀ c, BytesAt wr (if c = 0 then a3 else a3.map (·.add 0)) (z.take k)) := fun c => bytes_take (HB3.out.kept hb)
      have HCW : Hid (CrcTab wr) := HC.out.kept hb
      have HKW : Hid (KTab wr) := HK.out.kept hb
      have H2W : Hid (2 ≤ wr.heap.size) := by show _ ≤ _; have := H2.out; have := hb.size; omega
      have HNB : Hid (k ≤ 281474976710656) := by show _ ≤ _; omega
      have HNC1 : Hid (k ≤ c1) := Nat.le_trans HN1.out HL1.out
      have HNC2 : Hid (k ≤ c2) := Nat.le_trans HN2.out HL2.out
      have HNC3 : Hid (k ≤ c3) := Nat.le_trans HN3.out HL3.out
      have HBW := hid hb
      clear hR hb
      go_upto_region 7 with fail
      generalize x3 x y z k k = X at *
      generalize x.take k = A at *
      generalize y.take k = B at *
      generalize z.take k = C at *
      refine wp_act fun F HF => ?_
      have F0 : Hid (F.tmps[0]? = some (.slice a1 x.length c1)) := by show _ = _; rw [HF.out]; rfl
      have F1 : Hid (F.tmps[1]? = some (.slice a2 y.length c2)) := by show _ = _; rw [HF.out]; rfl
      have F2 : Hid (F.tmps[2]? = some (.slice a3 z.length c3)) := by show _ = _; rw [HF.out]; rfl
      have F7 : Hid (F.tmps[7]? = some (.int .i64 (k : Int))) := by show _ = _; rw [HF.out]; rfl
      have F8 : Hid (F.tmps[8]? = some (.slice (some ⟨g, 0, none⟩) k k)) := by show _ = _; rw [HF.out]; rfl
      have FS : Hid (F.tmps.size = 65) := by show _ = _; rw [HF.out]; rfl
      have FD : Hid (F.defers = []) := by show _ = _; rw [HF.out]
      clear HF
      refine wp_region_any (by kernel_rfl) ?_
      refine wpAny_spec wr (LSpec (.slice (some ⟨g, 0, none⟩) k k) (.slice a1 x.length c1) (.slice a2 y.length c2) (.slice a3 z.length c3) k c1 c2 c3 X A B C) (below_drawn (Below.refl _ _) _) ?step ?fin
      case fin =>
        intro l a' w' h hr
        have hall := ready_all h.len (by decide +kernel) hr
        obtain ⟨v, hv, hs⟩ := h.new 24 _ 6 (hall 24 (by decide +kernel)) rfl rfl
        obtain rfl : v = .bool true := hs
        have HBE : Hid (Below w.heap.size w w') := HBW.out.trans (h.bel.mono HBW.out.size)
        have hd : a'.defers = [] := h.defers.trans FD.out
        clear hall hr h
        obtain ⟨T, ds⟩ := a'
        simp only at hv hd
        subst hd
        go_wp2
        go_ret
        refine ⟨?_, HBE.out⟩
        simp [hv]
      case step =>
        intro l a w i h hi hm
        have hi : i < 25 := hi
        have hb : Below wr.heap.size wr w := h.bel
        rcases (show i = 0 ∨ i = 1 ∨ i = 2 ∨ i = 3 ∨ i = 4 ∨ i = 5 ∨ i = 6 ∨ i = 7 ∨ i = 8 ∨ i = 9 ∨ i = 10 ∨ i = 11 ∨ i = 12 ∨ i = 13 ∨ i = 14 ∨ i = 15 ∨ i = 16 ∨ i = 17 ∨ i = 18 ∨ i = 19 ∨ i = 20 ∨ i = 21 ∨ i = 22 ∨ i = 23 ∨ i = 24 by omega) with rfl | rfl | rfl | rfl | rfl | rfl | rfl | rfl | rfl | rfl | rfl | rfl | rfl | rfl | rfl | rfl | rfl | rfl | rfl | rfl | rfl | rfl | rfl | rfl | rfl
        · -- 0
          refine wpOp_of rfl rfl ?_
          refine step_call20 rfl (known_any (HKW.out.kept hb) (HCW.out.kept hb) (Nat.le_trans H2W.out hb.size)) ?_
          intro w2 hb2
          exact h.step rfl rfl (by rw [FS.out]; decide) (by decide +kernel) rfl hb2 (LSpec_mono hb2)
        · -- 1
          refine wpOp_of rfl rfl ?_
          obtain ⟨v0, e0, s0⟩ := h.val hm rfl (j := 0) rfl rfl (by decide +kernel)
          obtain rfl : v0 = .bool true := s0
          refine step_move rfl e0 ?_
          exact h.step rfl rfl (by rw [FS.out]; decide) (by decide +kernel) rfl (Below.refl _ _) (fun _ _ q => q)
        · -- 2
          obtain ⟨vg, hvg, hsg⟩ := h.new 1 _ 42 (ready_dep hm rfl (by decide +kernel)) rfl rfl
          obtain rfl : vg = .bool true := hsg
          refine wpOp_guard (j := 1) rfl rfl (yielded_of rfl rfl hvg) ?_
          refine step_move rfl (h.oldv (t := 8) (by decide +kernel) F8.out) ?_
          exact h.step rfl rfl (by rw [FS.out]; decide) (by decide +kernel) rfl (Below.refl _ _) (fun _ _ q => q)
        · -- 3
          obtain ⟨vg, hvg, hsg⟩ := h.new 1 _ 42 (ready_dep hm rfl (by decide +kernel)) rfl rfl
          obtain rfl : vg = .bool true := hsg
          refine wpOp_guard (j := 1) rfl rfl (yielded_of rfl rfl hvg) ?_
          obtain ⟨v0, e0, s0⟩ := h.val hm rfl (j := 2) rfl rfl (by decide +kernel)
          obtain rfl : v0 = .slice (some ⟨g, 0, none⟩) k k := s0
          have hb2 : Below w.heap.size w (w.alloc (.cells #[.slice (some ⟨g, 0, none⟩) k k] 24)) := (Below.refl _ _).alloc (Nat.le_refl _) _
          refine step_build22 rfl e0 ?_
          exact h.step rfl rfl (by rw [FS.out]; decide) (by decide +kernel) (pt_new (HX.out.kept hb) HLX.out HNB.out) hb2 (LSpec_mono hb2)
        · -- 4
          obtain ⟨vg, hvg, hsg⟩ := h.new 1 _ 42 (ready_dep hm rfl (by decide +kernel)) rfl rfl
          obtain rfl : vg = .bool true := hsg
          refine wpOp_guard (j := 1) rfl rfl (yielded_of rfl rfl hvg) ?_
          obtain ⟨v0, e0, s0⟩ := h.val hm rfl (j := 3) rfl rfl (by decide +kernel)
          obtain ⟨q, rfl, hp⟩ := s0
          refine step_call11 rfl e0 (crc_pt hp (HCW.out.kept hb)) ?_
          rintro w2 rfl
          exact h.step rfl rfl (by rw [FS.out]; decide) (by decide +kernel) rfl (Below.refl _ _) (fun _ _ q => q)
        · -- 5
          obtain ⟨vg, hvg, hsg⟩ := h.new 1 _ 42 (ready_dep hm rfl (by decide +kernel)) rfl rfl
          obtain rfl : vg = .bool true := hsg
          refine wpOp_guard (j := 1) rfl rfl (yielded_of rfl rfl hvg) ?_
          refine step_move rfl (h.oldv (t := 0) (by decide +kernel) F0.out) ?_
          exact h.step rfl rfl (by rw [FS.out]; decide) (by decide +kernel) rfl (Below.refl _ _) (fun _ _ q => q)
        · -- 6
          obtain ⟨vg, hvg, hsg⟩ := h.new 1 _ 42 (ready_dep hm rfl (by decide +kernel)) rfl rfl
          obtain rfl : vg = .bool true := hsg
          refine wpOp_guard (j := 1) rfl rfl (yielded_of rfl rfl hvg) ?_
          refine step_move rfl (h.oldv (t := 7) (by decide +kernel) F7.out) ?_
          exact h.step rfl rfl (by rw [FS.out]; decide) (by decide +kernel) rfl (Below.refl _ _) (fun _ _ q => q)
        · -- 7
          obtain ⟨vg, hvg, hsg⟩ := h.new 1 _ 42 (ready_dep hm rfl (by decide +kernel)) rfl rfl
          obtain rfl : vg = .bool true := hsg
          refine wpOp_guard (j := 1) rfl rfl (yielded_of rfl rfl hvg) ?_
          obtain ⟨v0, e0, s0⟩ := h.val hm rfl (j := 5) rfl rfl (by decide +kernel)
          obtain rfl : v0 = .slice a1 x.length c1 := s0
          obtain ⟨v1, e1, s1⟩ := h.val hm rfl (j := 6) rfl rfl (by decide +kernel)
          obtain rfl : v1 = .int .i64 (k : Int) := s1
          refine step_slice24 rfl e0 e1 HNC1.out ?_
          exact h.step rfl rfl (by rw [FS.out]; decide) (by decide +kernel) ⟨_, rfl, (HT1.out _).kept hb⟩ (Below.refl _ _) (fun _ _ q => q)
        · -- 8
          obtain ⟨vg, hvg, hsg⟩ := h.new 1 _ 42 (ready_dep hm rfl (by decide +kernel)) rfl rfl
          obtain rfl : vg = .bool true := hsg
          refine wpOp_guard (j := 1) rfl rfl (yielded_of rfl rfl hvg) ?_
          obtain ⟨v0, e0, s0⟩ := h.val hm rfl (j := 7) rfl rfl (by decide +kernel)
          obtain ⟨ad, rfl, hby⟩ := s0
          have hb2 : Below w.heap.size w (w.alloc (.cells #[.slice ad k c1] 24)) := (Below.refl _ _).alloc (Nat.le_refl _) _
          refine step_build22 rfl e0 ?_
          exact h.step rfl rfl (by rw [FS.out]; decide) (by decide +kernel) (pt_new hby HLA.out HNB.out) hb2 (LSpec_mono hb2)
        · -- 9
          obtain ⟨vg, hvg, hsg⟩ := h.new 1 _ 42 (ready_dep hm rfl (by decide +kernel)) rfl rfl
          obtain rfl : vg = .bool true := hsg
          refine wpOp_guard (j := 1) rfl rfl (yielded_of rfl rfl hvg) ?_
          obtain ⟨v0, e0, s0⟩ := h.val hm rfl (j := 8) rfl rfl (by decide +kernel)
          obtain ⟨q, rfl, hp⟩ := s0
          refine step_call11 rfl e0 (crc_pt hp (HCW.out.kept hb)) ?_
          rintro w2 rfl
          exact h.step rfl rfl (by rw [FS.out]; decide) (by decide +kernel) rfl (Below.refl _ _) (fun _ _ q => q)
        · -- 10
          obtain ⟨vg, hvg, hsg⟩ := h.new 1 _ 42 (ready_dep hm rfl (by decide +kernel)) rfl rfl
          obtain rfl : vg = .bool true := hsg
          refine wpOp_guard (j := 1) rfl rfl (yielded_of rfl rfl hvg) ?_
          refine step_move rfl (h.oldv (t := 1) (by decide +kernel) F1.out) ?_
          exact h.step rfl rfl (by rw [FS.out]; decide) (by decide +kernel) rfl (Below.refl _ _) (fun _ _ q => q)
        · -- 11
          obtain ⟨vg, hvg, hsg⟩ := h.new 1 _ 42 (ready_dep hm rfl (by decide +kernel)) rfl rfl
          obtain rfl : vg = .bool true := hsg
          refine wpOp_guard (j := 1) rfl rfl (yielded_of rfl rfl hvg) ?_
          refine step_move rfl (h.oldv (t := 7) (by decide +kernel) F7.out) ?_
          exact h.step rfl rfl (by rw [FS.out]; decide) (by decide +kernel) rfl (Below.refl _ _) (fun _ _ q => q)
        · -- 12
          obtain ⟨vg, hvg, hsg⟩ := h.new 1 _ 42 (ready_dep hm rfl (by decide +kernel)) rfl rfl
          obtain rfl : vg = .bool true := hsg
          refine wpOp_guard (j := 1) rfl rfl (yielded_of rfl rfl hvg) ?_
          obtain ⟨v0, e0, s0⟩ := h.val hm rfl (j := 10) rfl rfl (by decide +kernel)
          obtain rfl : v0 = .slice a2 y.length c2 := s0
          obtain ⟨v1, e1, s1⟩ := h.val hm rfl (j := 11) rfl rfl (by decide +kernel)
          obtain rfl : v1 = .int .i64 (k : Int) := s1
          refine step_slice24 rfl e0 e1 HNC2.out ?_
          exact h.step rfl rfl (by rw [FS.out]; decide) (by decide +kernel) ⟨_, rfl, (HT2.out _).kept hb⟩ (Below.refl _ _) (fun _ _ q => q)
        · -- 13
          obtain ⟨vg, hvg, hsg⟩ := h.new 1 _ 42 (ready_dep hm rfl (by decide +kernel)) rfl rfl
          obtain rfl : vg = .bool true := hsg
          refine wpOp_guard (j := 1) rfl rfl (yielded_of rfl rfl hvg) ?_
          obtain ⟨v0, e0, s0⟩ := h.val hm rfl (j := 12) rfl rfl (by decide +kernel)
          obtain ⟨ad, rfl, hby⟩ := s0
          have hb2 : Below w.heap.size w (w.alloc (.cells #[.slice ad k c2] 24)) := (Below.refl _ _).alloc (Nat.le_refl _) _
          refine step_build22 rfl e0 ?_
          exact h.step rfl rfl (by rw [FS.out]; decide) (by decide +kernel) (pt_new hby HLB.out HNB.out) hb2 (LSpec_mono hb2)
        · -- 14
          obtain ⟨vg, hvg, hsg⟩ := h.new 1 _ 42 (ready_dep hm rfl (by decide +kernel)) rfl rfl
          obtain rfl : vg = .bool true := hsg
          refine wpOp_guard (j := 1) rfl rfl (yielded_of rfl rfl hvg) ?_
          obtain ⟨v0, e0, s0⟩ := h.val hm rfl (j := 13) rfl rfl (by decide +kernel)
          obtain ⟨q, rfl, hp⟩ := s0
          refine step_call11 rfl e0 (crc_pt hp (HCW.out.kept hb)) ?_
          rintro w2 rfl
          exact h.step rfl rfl (by rw [FS.out]; decide) (by decide +kernel) rfl (Below.refl _ _) (fun _ _ q => q)
        · -- 15
          obtain ⟨vg, hvg, hsg⟩ := h.new 1 _ 42 (ready_dep hm rfl (by decide +kernel)) rfl rfl
          obtain rfl : vg = .bool true := hsg
          refine wpOp_guard (j := 1) rfl rfl (yielded_of rfl rfl hvg) ?_
          obtain ⟨v0, e0, s0⟩ := h.val hm rfl (j := 9) rfl rfl (by decide +kernel)
          obtain rfl : v0 = .int .u32 (u (crc A)) := s0
          obtain ⟨v1, e1, s1⟩ := h.val hm rfl (j := 14) rfl rfl (by decide +kernel)
          obtain rfl : v1 = .int .u32 (u (crc B)) := s1
          refine step_xor23 rfl e0 e1 ?_
          exact h.step rfl rfl (by rw [FS.out]; decide) (by decide +kernel) rfl (Below.refl _ _) (fun _ _ q => q)
        · -- 16
          obtain ⟨vg, hvg, hsg⟩ := h.new 1 _ 42 (ready_dep hm rfl (by decide +kernel)) rfl rfl
          obtain rfl : vg = .bool true := hsg
          refine wpOp_guard (j := 1) rfl rfl (yielded_of rfl rfl hvg) ?_
          refine step_move rfl (h.oldv (t := 2) (by decide +kernel) F2.out) ?_
          exact h.step rfl rfl (by rw [FS.out]; decide) (by decide +kernel) rfl (Below.refl _ _) (fun _ _ q => q)
        · -- 17
          obtain ⟨vg, hvg, hsg⟩ := h.new 1 _ 42 (ready_dep hm rfl (by decide +kernel)) rfl rfl
          obtain rfl : vg = .bool true := hsg
          refine wpOp_guard (j := 1) rfl rfl (yielded_of rfl rfl hvg) ?_
          refine step_move rfl (h.oldv (t := 7) (by decide +kernel) F7.out) ?_
          exact h.step rfl rfl (by rw [FS.out]; decide) (by decide +kernel) rfl (Below.refl _ _) (fun _ _ q => q)
        · -- 18
          obtain ⟨vg, hvg, hsg⟩ := h.new 1 _ 42 (ready_dep hm rfl (by decide +kernel)) rfl rfl
          obtain rfl : vg = .bool true := hsg
          refine wpOp_guard (j := 1) rfl rfl (yielded_of rfl rfl hvg) ?_
          obtain ⟨v0, e0, s0⟩ := h.val hm rfl (j := 16) rfl rfl (by decide +kernel)
          obtain rfl : v0 = .slice a3 z.length c3 := s0
          obtain ⟨v1, e1, s1⟩ := h.val hm rfl (j := 17) rfl rfl (by decide +kernel)
          obtain rfl : v1 = .int .i64 (k : Int) := s1
          refine step_slice24 rfl e0 e1 HNC3.out ?_
          exact h.step rfl rfl (by rw [FS.out]; decide) (by decide +kernel) ⟨_, rfl, (HT3.out _).kept hb⟩ (Below.refl _ _) (fun _ _ q => q)
        · -- 19
          obtain ⟨vg, hvg, hsg⟩ := h.new 1 _ 42 (ready_dep hm rfl (by decide +kernel)) rfl rfl
          obtain rfl : vg = .bool true := hsg
          refine wpOp_guard (j := 1) rfl rfl (yielded_of rfl rfl hvg) ?_
          obtain ⟨v0, e0, s0⟩ := h.val hm rfl (j := 18) rfl rfl (by decide +kernel)
          obtain ⟨ad, rfl, hby⟩ := s0
          have hb2 : Below w.heap.size w (w.alloc (.cells #[.slice ad k c3] 24)) := (Below.refl _ _).alloc (Nat.le_refl _) _
          refine step_build22 rfl e0 ?_
          exact h.step rfl rfl (by rw [FS.out]; decide) (by decide +kernel) (pt_new hby HLC.out HNB.out) hb2 (LSpec_mono hb2)
        · -- 20
          obtain ⟨vg, hvg, hsg⟩ := h.new 1 _ 42 (ready_dep hm rfl (by decide +kernel)) rfl rfl
          obtain rfl : vg = .bool true := hsg
          refine wpOp_guard (j := 1) rfl rfl (yielded_of rfl rfl hvg) ?_
          obtain ⟨v0, e0, s0⟩ := h.val hm rfl (j := 19) rfl rfl (by decide +kernel)
          obtain ⟨q, rfl, hp⟩ := s0
          refine step_call11 rfl e0 (crc_pt hp (HCW.out.kept hb)) ?_
          rintro w2 rfl
          exact h.step rfl rfl (by rw [FS.out]; decide) (by decide +kernel) rfl (Below.refl _ _) (fun _ _ q => q)
        · -- 21
          obtain ⟨vg, hvg, hsg⟩ := h.new 1 _ 42 (ready_dep hm rfl (by decide +kernel)) rfl rfl
          obtain rfl : vg = .bool true := hsg
          refine wpOp_guard (j := 1) rfl rfl (yielded_of rfl rfl hvg) ?_
          obtain ⟨v0, e0, s0⟩ := h.val hm rfl (j := 15) rfl rfl (by decide +kernel)
          obtain rfl : v0 = .int .u32 (u (crc A ^^^ crc B)) := s0
          obtain ⟨v1, e1, s1⟩ := h.val hm rfl (j := 20) rfl rfl (by decide +kernel)
          obtain rfl : v1 = .int .u32 (u (crc C)) := s1
          refine step_xor23 rfl e0 e1 ?_
          exact h.step rfl rfl (by rw [FS.out]; decide) (by decide +kernel) rfl (Below.refl _ _) (fun _ _ q => q)
        · -- 22
          obtain ⟨vg, hvg, hsg⟩ := h.new 1 _ 42 (ready_dep hm rfl (by decide +kernel)) rfl rfl
          obtain rfl : vg = .bool true := hsg
          refine wpOp_guard (j := 1) rfl rfl (yielded_of rfl rfl hvg) ?_
          obtain ⟨v0, e0, s0⟩ := h.val hm rfl (j := 4) rfl rfl (by decide +kernel)
          obtain rfl : v0 = .int .u32 (u (crc X)) := s0
          obtain ⟨v1, e1, s1⟩ := h.val hm rfl (j := 21) rfl rfl (by decide +kernel)
          obtain rfl : v1 = .int .u32 (u (crc A ^^^ crc B ^^^ crc C)) := s1
          rw [HXC.out] at e0
          refine step_eql23 rfl e0 e1 ?_
          exact h.step rfl rfl (by rw [FS.out]; decide) (by decide +kernel) rfl (Below.refl _ _) (fun _ _ q => q)
        · -- 23
          refine wpOp_of rfl rfl ?_
          obtain ⟨v0, e0, s0⟩ := h.val hm rfl (j := 1) rfl rfl (by decide +kernel)
          obtain rfl : v0 = .bool true := s0
          obtain ⟨v1, e1, s1⟩ := h.val hm rfl (j := 22) rfl rfl (by decide +kernel)
          obtain rfl : v1 = .bool true := s1
          refine step_pick rfl e0 e1 ?_
          exact h.step rfl rfl (by rw [FS.out]; decide) (by decide +kernel) rfl (Below.refl _ _) (fun _ _ q => q)
        · -- 24
          refine wpOp_of rfl rfl ?_
          obtain ⟨v0, e0, s0⟩ := h.val hm rfl (j := 23) rfl rfl (by decide +kernel)
          obtain rfl : v0 = .bool true := s0
          refine step_assign rfl e0 ?_
          exact h.step rfl rfl (by rw [FS.out]; decide) (by decide +kernel) rfl (Below.refl _ _) (fun _ _ q => q)
end Go.Proofs.YtjhkoanjocdboaaDoor
