import Derived.Test.YtjnmfedefmemnaaFresh2
namespace Go.Proofs.Ytjnmfedefmemnaa
open Go.RowKit
set_option maxRecDepth 100000

/-- A net of one path, all of whose blocks lie below M, with these frames in direction 0. -/
def NetS (M B : Nat) (w : World) (p g : Nat) (fs : List (List (BitVec 8))) : Prop := ∃ c v qs, LaneS M B w p g 1 0 0 true 8 0 c v qs fs
section
variable {M B : Nat} {w w' : World} {p g : Nat} {fs : List (List (BitVec 8))}
theorem NetS.kept (h : NetS M B w p g fs) (hb : Below M w w') : NetS M B w' p g fs := by
  obtain ⟨c, v, qs, h⟩ := h
  exact ⟨c, v, qs, h.kept hb⟩
theorem NetS.hM (h : NetS M B w p g fs) : M ≤ w.heap.size := by
  obtain ⟨c, v, qs, h⟩ := h
  exact h.hM
theorem NetS.peek (h : NetS M B w p g fs) {j : Nat} (hj : j < fs.length) :
    Calls Try.prog 12 #[.pointer (some ⟨p, 0, none⟩), .int .i64 0, .int .i64 0, .int .i64 j] w fun e w' => ∃ g', e = .returned (.tuple #[.agg #[.slice (some ⟨g', 0, none⟩) fs[j].length fs[j].length, .bool false], .int .i64 0]) ∧ w.heap.size ≤ g' ∧ Row w' g' (bcells fs[j]) 5 ∧ Below w.heap.size w w' := by
  obtain ⟨c, v, qs, h⟩ := h
  exact h.lane.peek hj
theorem NetS.take (h : NetS M B w p g fs) {j : Nat} (hj : j < fs.length) :
    Calls Try.prog 13 #[.pointer (some ⟨p, 0, none⟩), .int .i64 0, .int .i64 0, .int .i64 j] w fun e w' => ∃ g', e = .returned (.tuple #[.agg #[.slice (some ⟨g', 0, none⟩) fs[j].length fs[j].length, .bool false], .int .i64 0]) ∧ w.heap.size ≤ g' ∧ Row w' g' (bcells fs[j]) 5 ∧ NetS M B w' p g (fs.eraseIdx j) ∧ Keeps B w w' := by
  obtain ⟨c, v, qs, h⟩ := h
  refine (h.take hj).mono ?_
  rintro e w' ⟨g', rfl, hg, hr, c', v', qs', hl, hk⟩
  exact ⟨g', rfl, hg, hr, ⟨c', v', qs', hl⟩, hk⟩
end
theorem NetR.double {B : Nat} {w : World} {p g : Nat} {fs : List (List (BitVec 8))} (h : NetR B w p g 0 8 fs) (hlt : (fs.length : Int) < 8) {j : Nat} (hj : j < fs.length) :
    Calls Try.prog 11 #[.pointer (some ⟨p, 0, none⟩), .int .i64 0, .int .i64 0, .int .i64 j] w fun e w' => e = .returned (.tuple #[.bool true, .int .i64 0]) ∧ NetS w'.heap.size B w' p g (fs ++ [fs[j]]) ∧ Keeps B w w' := by
  obtain ⟨c, v, qs, h, e⟩ := h
  refine (h.double hlt hj).mono ?_
  rintro e w' ⟨rfl, c', v', qs', hl, hk⟩
  exact ⟨rfl, ⟨c', v', qs', hl.small⟩, hk⟩
/-- Keeps for blocks of bytes. -/
theorem Blocks.keeps {M B : Nat} {w w' : World} {al : List Nat} {xs : List (List (BitVec 8))} (h : Blocks M w al xs) (k : Keeps B w w') : Blocks M w' al xs :=
  ⟨h.la, h.nd, h.ge, fun i h1 h2 => k.row (h.row i h1 h2) (by decide) (by decide)⟩
theorem Blocks.snocK {M B : Nat} {w w' : World} {al : List Nat} {xs : List (List (BitVec 8))} (h : Blocks M w al xs) {a : Nat} {x : List (BitVec 8)} (ha : w.heap.size ≤ a) (hM : M ≤ w.heap.size) (hk : Keeps B w w') (R : Row w' a (bcells x) 5) : Blocks M w' (al ++ [a]) (xs ++ [x]) := by
  have h' := h.keeps hk
  refine ⟨by simp [h.la], ?_, fun b hb' => ?_, fun i h1 h2 => ?_⟩
  · refine List.nodup_append.2 ⟨h.nd, by simp, fun b hb1 b' hb2 => ?_⟩
    have : b' = a := by simpa using hb2
    subst this
    have := h.lt b hb1
    omega
  · rcases List.mem_append.1 hb' with h1 | h1
    · exact h.ge b h1
    · have : b = a := by simpa using h1
      omega
  · by_cases hi : i < al.length
    · have hx : i < xs.length := by rw [← h.la]; exact hi
      have := h'.row i hi hx
      rw [List.getElem_append_left hi, List.getElem_append_left hx]
      exact this
    · have e : i = al.length := by simp at h1; omega
      subst e
      have hx : al.length = xs.length := h.la
      simp [hx]
      exact R
set_option maxHeartbeats 16000000 in
theorem fresh_any {W : World} {fa oa : Option Addr} {fcap ocap : Nat} {f o : List (BitVec 8)} (hF : BytesAt W fa f) (hO : BytesAt W oa o) (hb1 : f.length ≤ 140737488351232) (hb2 : o.length ≤ 140737488351232) :
    Calls Try.prog 3 #[.slice fa f.length fcap, .slice oa o.length ocap] W fun e w' => e = .returned (.bool true) ∧ Below W.heap.size W w' := by
  have hcc : (W.alloc (.cells #[.int .i64 8] 3)).cell? ⟨W.heap.size, 0, none⟩ = some (.int .i64 8) := (Row.new W [.int .i64 8] 3).cell 0 _ rfl
  have HN := hid (new_one (by decide) (by decide) hcc)
  have HB0 := hid (below_grow (Below.refl W.heap.size W) (.cells #[.int .i64 8] 3))
  have HF := hid hF
  have HO := hid hO
  have HBN := hid hb1
  have HBM := hid hb2
  have b1 : (f.length : Int) ≤ 140737488351232 := by omega
  have b2 : (o.length : Int) ≤ 140737488351232 := by omega
  clear hcc hF hO hb1 hb2
  go_enter Try.func3, Try.ntmps3
  go_upto_region 4 with (go_at_call 9; refine Calls.mono HN.out ?_; rintro e w1 ⟨p, g, rfl, hq, hpq, hr, hn, hb⟩; have HNR := hid (NetR.new (d := 0) HB0.out.size (by decide) (by decide) hq hpq hr hn (by decide)); have HBW := hid (HB0.out.trans (hb.mono HB0.out.size)); clear hr hn hb hq hpq)
  clear HN HB0
  go_upto_region 5 with (go_at_call 10; refine (NetR.put (d := 0) (cap := fcap) HNR.out (by decide) (HF.out.kept HBW.out) rfl (Nat.le_trans HBN.out (by decide))).mono ?_; rintro e w2 ⟨rfl, hn2, hk2⟩; have HN2 := hid hn2; have HB2 := hid (HBW.out.trans hk2.below); clear hn2 hk2)
  clear HNR HBW
  go_upto_region 6 with (go_at_call 10; refine (NetR.put (d := 0) (cap := ocap) HN2.out (by simp) (HO.out.kept HB2.out) rfl (Nat.le_trans HBM.out (by decide))).mono ?_; rintro e w3 ⟨rfl, hn3, hk3⟩; have HN3 := hid hn3; have HB3 := hid (HB2.out.trans hk3.below); clear hn3 hk3)
  clear HN2 HB2
  go_upto_region 7 with (go_at_call 11; refine (NetR.double (j := 0) HN3.out (by simp) (by simp)).mono ?_; rintro e w4 ⟨rfl, hn4, hk4⟩; have HN4 := hid hn4; have HB4 := hid (HB3.out.trans hk4.below); clear hn4 hk4)
  clear HN3 HB3
  have HS4 : Hid (NetS w4.heap.size W.heap.size w4 p g [f, o, f]) := HN4.out
  have HBL4 : Hid (Blocks w4.heap.size w4 [] []) := Blocks.nil _ _
  clear HN4
  generalize hM : w4.heap.size = M at *
  have HM4 : Hid (M ≤ w4.heap.size) := by show M ≤ _; omega
  have HWM : Hid (W.heap.size ≤ M) := by show W.heap.size ≤ M; have := HB4.out.size; omega
  clear hM
  go_upto_region 8 with (go_at_call 12; refine (NetS.peek (j := 0) HS4.out (by simp)).mono ?_; rintro e u0 ⟨a0, rfl, hg5, hr5, hb5⟩; have HA0 := hid hb5; have HBLu0 : Hid (Blocks M u0 [a0] [f]) := HBL4.out.snoc hg5 HM4.out hb5 hr5; clear hg5 hr5 hb5)
  refine wp_world fun v0 HW => ?_
  have HK0 : Hid (Below u0.heap.size u0 v0) := by show Below _ _ _; rw [HW.out]; exact below_grow (Below.refl _ _) _
  have HX0 : Hid (Row v0 u0.heap.size [.slice (some ⟨a0, 0, none⟩) f.length f.length, .bool false] 32) := by show Row _ _ _ _; rw [HW.out]; exact Row.new' _ _ _ _ _ rfl rfl
  have HT0 : Hid (Below w4.heap.size w4 v0) := HA0.out.trans (HK0.out.mono HA0.out.size)
  have HSv0 := hid (HS4.out.kept (HT0.out.mono HM4.out))
  have HBLv0 := hid (HBLu0.out.kept HK0.out HBLu0.out.lt)
  have HBv0 : Hid (Below W.heap.size W v0) := HB4.out.trans (HT0.out.mono HB4.out.size)
  have HMv0 : Hid (M ≤ v0.heap.size) := Nat.le_trans HM4.out HT0.out.size
  generalize u0.heap.size = bx0 at *
  clear HW HK0 HA0 HT0 HBLu0 HS4 HBL4 HB4 HM4
  go_upto_region 9 with (go_at_call 12; refine (NetS.peek (j := 1) HSv0.out (by simp)).mono ?_; rintro e u1 ⟨a1, rfl, hg5, hr5, hb5⟩; have HA1 := hid hb5; have HBLu1 : Hid (Blocks M u1 [a0, a1] [f, o]) := HBLv0.out.snoc hg5 HMv0.out hb5 hr5; clear hg5 hr5 hb5)
  refine wp_world fun v1 HW => ?_
  have HK1 : Hid (Below u1.heap.size u1 v1) := by show Below _ _ _; rw [HW.out]; exact below_grow (Below.refl _ _) _
  have HX1 : Hid (Row v1 u1.heap.size [.slice (some ⟨a1, 0, none⟩) o.length o.length, .bool false] 32) := by show Row _ _ _ _; rw [HW.out]; exact Row.new' _ _ _ _ _ rfl rfl
  have HT1 : Hid (Below v0.heap.size v0 v1) := HA1.out.trans (HK1.out.mono HA1.out.size)
  have HSv1 := hid (HSv0.out.kept (HT1.out.mono HMv0.out))
  have HBLv1 := hid (HBLu1.out.kept HK1.out HBLu1.out.lt)
  have HBv1 : Hid (Below W.heap.size W v1) := HBv0.out.trans (HT1.out.mono HBv0.out.size)
  have HMv1 : Hid (M ≤ v1.heap.size) := Nat.le_trans HMv0.out HT1.out.size
  have HX0n := hid (HX0.out.kept HT1.out HX0.out.lt)
  clear HX0
  have HX0 := hid HX0n.out
  clear HX0n
  generalize u1.heap.size = bx1 at *
  clear HW HK1 HA1 HT1 HBLu1 HSv0 HBLv0 HBv0 HMv0
  go_upto_region 10 with (go_at_call 12; refine (NetS.peek (j := 0) HSv1.out (by simp)).mono ?_; rintro e u2 ⟨a2, rfl, hg5, hr5, hb5⟩; have HA2 := hid hb5; have HBLu2 : Hid (Blocks M u2 [a0, a1, a2] [f, o, f]) := HBLv1.out.snoc hg5 HMv1.out hb5 hr5; clear hg5 hr5 hb5)
  refine wp_world fun v2 HW => ?_
  have HK2 : Hid (Below u2.heap.size u2 v2) := by show Below _ _ _; rw [HW.out]; exact below_grow (Below.refl _ _) _
  have HX2 : Hid (Row v2 u2.heap.size [.slice (some ⟨a2, 0, none⟩) f.length f.length, .bool false] 32) := by show Row _ _ _ _; rw [HW.out]; exact Row.new' _ _ _ _ _ rfl rfl
  have HT2 : Hid (Below v1.heap.size v1 v2) := HA2.out.trans (HK2.out.mono HA2.out.size)
  have HSv2 := hid (HSv1.out.kept (HT2.out.mono HMv1.out))
  have HBLv2 := hid (HBLu2.out.kept HK2.out HBLu2.out.lt)
  have HBv2 : Hid (Below W.heap.size W v2) := HBv1.out.trans (HT2.out.mono HBv1.out.size)
  have HMv2 : Hid (M ≤ v2.heap.size) := Nat.le_trans HMv1.out HT2.out.size
  have HX0n := hid (HX0.out.kept HT2.out HX0.out.lt)
  clear HX0
  have HX0 := hid HX0n.out
  clear HX0n
  have HX1n := hid (HX1.out.kept HT2.out HX1.out.lt)
  clear HX1
  have HX1 := hid HX1n.out
  clear HX1n
  generalize u2.heap.size = bx2 at *
  clear HW HK2 HA2 HT2 HBLu2 HSv1 HBLv1 HBv1 HMv1
  go_upto_region 11 with (go_at_call 12; refine (NetS.peek (j := 2) HSv2.out (by simp)).mono ?_; rintro e u3 ⟨a3, rfl, hg5, hr5, hb5⟩; have HA3 := hid hb5; have HBLu3 : Hid (Blocks M u3 [a0, a1, a2, a3] [f, o, f, f]) := HBLv2.out.snoc hg5 HMv2.out hb5 hr5; clear hg5 hr5 hb5)
  refine wp_world fun v3 HW => ?_
  have HK3 : Hid (Below u3.heap.size u3 v3) := by show Below _ _ _; rw [HW.out]; exact below_grow (Below.refl _ _) _
  have HX3 : Hid (Row v3 u3.heap.size [.slice (some ⟨a3, 0, none⟩) f.length f.length, .bool false] 32) := by show Row _ _ _ _; rw [HW.out]; exact Row.new' _ _ _ _ _ rfl rfl
  have HT3 : Hid (Below v2.heap.size v2 v3) := HA3.out.trans (HK3.out.mono HA3.out.size)
  have HSv3 := hid (HSv2.out.kept (HT3.out.mono HMv2.out))
  have HBLv3 := hid (HBLu3.out.kept HK3.out HBLu3.out.lt)
  have HBv3 : Hid (Below W.heap.size W v3) := HBv2.out.trans (HT3.out.mono HBv2.out.size)
  have HMv3 : Hid (M ≤ v3.heap.size) := Nat.le_trans HMv2.out HT3.out.size
  have HX0n := hid (HX0.out.kept HT3.out HX0.out.lt)
  clear HX0
  have HX0 := hid HX0n.out
  clear HX0n
  have HX1n := hid (HX1.out.kept HT3.out HX1.out.lt)
  clear HX1
  have HX1 := hid HX1n.out
  clear HX1n
  have HX2n := hid (HX2.out.kept HT3.out HX2.out.lt)
  clear HX2
  have HX2 := hid HX2n.out
  clear HX2n
  generalize u3.heap.size = bx3 at *
  clear HW HK3 HA3 HT3 HBLu3 HSv2 HBLv2 HBv2 HMv2
  go_upto_region 12 with (go_at_call 13; refine (NetS.take (j := 2) HSv3.out (by simp)).mono ?_; rintro e u4 ⟨a4, rfl, hg5, hr5, hn5, hk5⟩; have HN5 : Hid (NetS M W.heap.size u4 p g [f, o]) := hn5; have HKP := hid hk5; have HBLu4 : Hid (Blocks M u4 [a0, a1, a2, a3, a4] [f, o, f, f, f]) := HBLv3.out.snocK hg5 HMv3.out hk5 hr5; clear hg5 hr5 hn5 hk5)
  refine wp_world fun v4 HW => ?_
  have HK4 : Hid (Below u4.heap.size u4 v4) := by show Below _ _ _; rw [HW.out]; exact below_grow (Below.refl _ _) _
  have HX4 : Hid (Row v4 u4.heap.size [.slice (some ⟨a4, 0, none⟩) f.length f.length, .bool false] 32) := by show Row _ _ _ _; rw [HW.out]; exact Row.new' _ _ _ _ _ rfl rfl
  have HSv4 := hid (HN5.out.kept (HK4.out.mono HN5.out.hM))
  have HBLv4 := hid (HBLu4.out.kept HK4.out HBLu4.out.lt)
  have HBv4 : Hid (Below W.heap.size W v4) := (HBv3.out.trans HKP.out.below).trans (HK4.out.mono (Nat.le_trans HBv3.out.size HKP.out.size))
  have HMv4 : Hid (M ≤ v4.heap.size) := Nat.le_trans (Nat.le_trans HMv3.out HKP.out.size) HK4.out.size
  have hx0 := HKP.out.row HX0.out (by decide) (by decide)
  have HX0n := hid (hx0.kept HK4.out hx0.lt)
  clear hx0 HX0
  have HX0 := hid HX0n.out
  clear HX0n
  have hx1 := HKP.out.row HX1.out (by decide) (by decide)
  have HX1n := hid (hx1.kept HK4.out hx1.lt)
  clear hx1 HX1
  have HX1 := hid HX1n.out
  clear HX1n
  have hx2 := HKP.out.row HX2.out (by decide) (by decide)
  have HX2n := hid (hx2.kept HK4.out hx2.lt)
  clear hx2 HX2
  have HX2 := hid HX2n.out
  clear HX2n
  have hx3 := HKP.out.row HX3.out (by decide) (by decide)
  have HX3n := hid (hx3.kept HK4.out hx3.lt)
  clear hx3 HX3
  have HX3 := hid HX3n.out
  clear HX3n
  generalize u4.heap.size = bx4 at *
  clear HW HK4 HKP HN5 HBLu4 HSv3 HBLv3 HBv3 HMv3
  have y0 := HX0.out.cell 0 _ rfl
  have y1 := HX1.out.cell 0 _ rfl
  have y2 := HX2.out.cell 0 _ rfl
  have y3 := HX3.out.cell 0 _ rfl
  have y4 := HX4.out.cell 0 _ rfl
  have y5 := HX4.out.cell 1 _ rfl
  clear HX0 HX1 HX2 HX3 HX4
  go_upto_region 13 with (fail)
  refine wp_world fun w6 HW => ?_
  have HK6 : Hid (Below v4.heap.size v4 w6) := by show Below _ _ _; rw [HW.out]; exact below_grow (Below.refl _ _) _
  have HLR : Hid (Row w6 v4.heap.size (lsOf [a0, a1, a2, a3, a4] [f, o, f, f, f]) 22) := by show Row _ _ _ _; rw [HW.out]; exact Row.new' _ _ _ _ _ rfl rfl
  have HS6 := hid (HSv4.out.kept (HK6.out.mono HMv4.out))
  have HBL6 := hid (HBLv4.out.kept HK6.out HBLv4.out.lt)
  have HB6 : Hid (Below W.heap.size W w6) := HBv4.out.trans (HK6.out.mono HBv4.out.size)
  have HM6 : Hid (M ≤ w6.heap.size) := Nat.le_trans HMv4.out HK6.out.size
  have HML : Hid (M ≤ v4.heap.size) := HMv4.out
  have y6 := cell_kept HK6.out y5
  generalize v4.heap.size = lb at *
  clear HW HK6 y0 y1 y2 y3 y4 y5 HSv4 HBLv4 HBv4 HMv4
  go_upto_region 14 with (fail)
  refine wp_world fun w7 HW => ?_
  have HK7 : Hid (Below w6.heap.size w6 w7) := by show Below _ _ _; rw [HW.out]; exact below_grow (Below.refl _ _) _
  have HWR : Hid (Row w7 w6.heap.size [.slice fa f.length fcap, .slice oa o.length ocap, .slice fa f.length fcap, .slice fa f.length fcap, .slice fa f.length fcap] 22) := by show Row _ _ _ _; rw [HW.out]; exact Row.new' _ _ _ _ _ rfl rfl
  have HSF : Hid (SlAt W (.slice fa f.length fcap) f) := ⟨_, _, rfl, HF.out⟩
  have HSO : Hid (SlAt W (.slice oa o.length ocap) o) := ⟨_, _, rfl, HO.out⟩
  have HWS : Hid (Slices W [.slice fa f.length fcap, .slice oa o.length ocap, .slice fa f.length fcap, .slice fa f.length fcap, .slice fa f.length fcap] [f, o, f, f, f]) := ⟨rfl, fun j x h h1 h2 => by
    match j, h1, h2 with
    | 0, h1, h2 => cases h1; cases h2; exact HSF.out
    | 1, h1, h2 => cases h1; cases h2; exact HSO.out
    | 2, h1, h2 => cases h1; cases h2; exact HSF.out
    | 3, h1, h2 => cases h1; cases h2; exact HSF.out
    | 4, h1, h2 => cases h1; cases h2; exact HSF.out⟩
  have HLR7 := hid (HLR.out.kept HK7.out HLR.out.lt)
  have HS7 := hid (HS6.out.kept (HK7.out.mono HM6.out))
  have HBL7 := hid (HBL6.out.kept HK7.out HBL6.out.lt)
  have HB7 : Hid (Below W.heap.size W w7) := HB6.out.trans (HK7.out.mono HB6.out.size)
  have HM7 : Hid (M ≤ w7.heap.size) := Nat.le_trans HM6.out HK7.out.size
  have y7 := cell_kept HK7.out y6
  have HFB : Hid (∀ x ∈ [f, o, f, f, f], x.length ≤ 140737488351232) := fun x hx => by
    simp at hx
    rcases hx with rfl | rfl | rfl
    · exact HBN.out
    · exact HBM.out
    · exact HBN.out
  have HF5 : Hid ([f, o, f, f, f].length = 5) := rfl
  have HA5 : Hid ([a0, a1, a2, a3, a4].length = 5) := rfl
  have HW5 : Hid ([Value.slice fa f.length fcap, .slice oa o.length ocap, .slice fa f.length fcap, .slice fa f.length fcap, .slice fa f.length fcap].length = 5) := rfl
  generalize w6.heap.size = wb at *
  clear HW HK7 HLR HS6 HBL6 HB6 HM6 y6
  go_upto_region 16 with (fail)
  clear y7
  generalize hff : [f, o, f, f, f] = ff at *
  generalize hal : [a0, a1, a2, a3, a4] = al at *
  generalize hws : [Value.slice fa f.length fcap, .slice oa o.length ocap, .slice fa f.length fcap, .slice fa f.length fcap, .slice fa f.length fcap] = ws at *
  clear hff hal hws
  go_wp2
  go_loopw [19] (fun i wr => ∃ r : Nat, r ≤ 5 ∧ i = .int .i64 r ∧ Below w7.heap.size w7 wr) (fun i _ => 5 - (intOf i).toNat)
  case atStart => exact ⟨0, Nat.zero_le _, rfl, Below.refl _ _⟩
  case round =>
    obtain ⟨r, hr, rfl, hbr⟩ := hrel
    have HBR := hid hbr
    clear hbr
    by_cases hr5 : r < 5
    · have hra : r < al.length := by rw [HA5.out]; exact hr5
      have hrf : r < ff.length := by rw [HF5.out]; exact hr5
      have hrw : r < ws.length := by rw [HW5.out]; exact hr5
      obtain ⟨aw, cw, ew, hbw⟩ := HWS.out.each r _ _ (List.getElem?_eq_getElem hrw) (List.getElem?_eq_getElem hrf)
      have l1 : (r : Int) < 5 := by omega
      have l0 : (0 : Int) ≤ (r : Int) := by omega
      have c1 := (HLR7.out.kept HBR.out HLR7.out.lt).cell _ _ (lsOf_get hra hrf)
      have c2 := (HWR.out.kept HBR.out HWR.out.lt).cell _ _ (List.getElem?_eq_getElem hrw)
      rw [ew] at c2
      have hro := HBL7.out.row r hra hrf
      have HRO := hid (hro.kept HBR.out hro.lt)
      have HBY : Hid (BytesAt wr aw ff[r]) := hbw.kept (HB7.out.trans (HBR.out.mono HB7.out.size))
      have HSM : Hid (∀ k, Calls Try.prog 14 #[.slice (some ⟨al[r], 0, none⟩) ff[r].length ff[r].length, .slice aw ff[r].length cw] (wr.drewN k) fun e w' => e = .returned (.bool true) ∧ w' = wr.drewN k) := fun k => by
        have h := same_any (w := wr.drewN k) (cap := ff[r].length) (cap' := cw) (HRO.out.drewN k).bytes rfl (HBY.out.drewN k) rfl
        rwa [decide_eq_true rfl] at h
      clear hro ew hbw
      generalize al[r] = ar at *
      generalize ff[r] = fr at *
      go_wp2
      go_quiet (first | (go_at_call 14; exact Calls.quiet_of_same (HSM.out _)))
      obtain ⟨wd, hwd⟩ : ∃ wd, wd = wr.drewN nq := ⟨_, rfl⟩
      rw [← hwd]
      have HD : Hid (Below wr.heap.size wr wd) := by show Below _ _ _; rw [hwd]; exact below_drewN (Below.refl _ _) _
      clear hwd c1 c2 HSM
      go_wp2
      go_roundw
      case rel => exact ⟨r + 1, hr5, by go_num, HBR.out.trans (HD.out.mono HBR.out.size)⟩
      case measure => simp [intOf]; omega
    · have er : r = 5 := by omega
      subst er
      have HLR8 := hid (HLR7.out.kept HBR.out HLR7.out.lt)
      have HS8 := hid (HS7.out.kept (HBR.out.mono HM7.out))
      have HBL8 : Hid (Blocks M wr al (mk ff 0)) := by show Blocks _ _ _ _; rw [mk_zero]; exact HBL7.out.kept HBR.out HBL7.out.lt
      have HB8 : Hid (Below W.heap.size W wr) := HB7.out.trans (HBR.out.mono HB7.out.size)
      clear HLR7 HS7 HBL7 HB7 HM7 HWR HWS HBR
      go_upto_region 22 with (fail)
      go_wp2
      go_loopw [21] (fun i wr => ∃ r : Nat, r ≤ 5 ∧ i = .int .i64 r ∧ Row wr lb (lsOf al ff) 22 ∧ NetS M W.heap.size wr p g [f, o] ∧ Blocks M wr al (mk ff r) ∧ Below W.heap.size W wr) (fun i _ => 5 - (intOf i).toNat)
      case atStart => exact ⟨0, Nat.zero_le _, rfl, HLR8.out, HS8.out, HBL8.out, HB8.out⟩
      case round =>
        clear HLR8 HS8 HBL8 HB8
        obtain ⟨r, hr, rfl, h1, h2, h3, h4⟩ := hrel
        have HLR := hid h1
        have HS := hid h2
        have HBL := hid h3
        have HB := hid h4
        clear h1 h2 h3 h4
        by_cases hr5 : r < 5
        · have hra : r < al.length := by rw [HA5.out]; exact hr5
          have hrf : r < ff.length := by rw [HF5.out]; exact hr5
          have l1 : (r : Int) < 5 := by omega
          have l0 : (0 : Int) ≤ (r : Int) := by omega
          have hbr : ff[r].length ≤ 140737488351232 := HFB.out _ (List.getElem_mem hrf)
          have l2 : (ff[r].length : Int) ≤ 140737488351232 := by omega
          go_upto_region 25 with (fail)
          go_wp2
          go_loopw [22] (fun i wr => ∃ k : Nat, k ≤ ff[r].length ∧ i = .int .i64 k ∧ Row wr lb (lsOf al ff) 22 ∧ NetS M W.heap.size wr p g [f, o] ∧ Blocks M wr al ((mk ff r).set r (marked (bt (10 + r)) k ff[r])) ∧ Below W.heap.size W wr) (fun i _ => ff[r].length - (intOf i).toNat)
          case atStart =>
            refine ⟨0, Nat.zero_le _, rfl, HLR.out, HS.out, ?_, HB.out⟩
            rw [marked_zero]
            have e : (mk ff r).set r ff[r] = mk ff r := by
              have h := mk_get (ff := ff) (i := r) hrf
              rw [if_neg (Nat.lt_irrefl r)] at h
              conv => lhs; rw [← h]
              exact List.set_getElem_self _
            rw [e]
            exact HBL.out
          case round =>
            clear HLR HS HBL HB
            obtain ⟨k, hk, rfl, h1, h2, h3, h4⟩ := hrel
            have HLR := hid h1
            have HS := hid h2
            have HBL := hid h3
            have HB := hid h4
            clear h1 h2 h3 h4
            have c1 := HLR.out.cell _ _ (lsOf_get hra hrf)
            by_cases hkl : k < ff[r].length
            · have hx2 : r < ((mk ff r).set r (marked (bt (10 + r)) k ff[r])).length := by rw [List.length_set, mk_len]; exact hrf
              have hrow := HBL.out.row r hra hx2
              have hml : (marked (bt (10 + r)) k ff[r]).length = ff[r].length := marked_len hk
              have c2 : ∃ v, wr.cell? ⟨al[r], k, none⟩ = some v := ⟨_, hrow.cell k _ (bcells_get (by rw [List.getElem_set_self, hml]; exact hkl))⟩
              obtain ⟨v2, c2⟩ := c2
              have f2 := hrow.frozen k
              have l3 : (k : Int) < (ff[r].length : Int) := by omega
              have hw8 : IntKind.u8.wrap (10 + (r : Int)) = 10 + (r : Int) := by rw [IntKind.wrap_u8']; omega
              have hMa : M ≤ al[r] := HBL.out.ge _ (List.getElem_mem hra)
              have HAL : Hid (al[r] ≠ lb) := hrow.ne HLR.out (by decide)
              clear hrow
              go_wp2
              go_roundw
              case rel =>
                have e8 : (10 + (r : Int)) = ub (bt (10 + r)) := by rw [ub_bt _ (by omega)]; simp
                have hset := HBL.out.set (k := k) hra hx2 (bt (10 + r))
                rw [List.getElem_set_self, List.set_set, marked_set hkl, ← e8] at hset
                have hbm : Below M wr (wr.setCell ⟨al[r], k, none⟩ (.int .u8 (10 + (r : Int)))) := (Below.refl M wr).setCell hMa _
                exact ⟨k + 1, hkl, by go_num, HLR.out.setOther _ (Ne.symm HAL.out) _, HS.out.kept hbm, hset, HB.out.trans (hbm.mono HWM.out)⟩
              case measure => simp [intOf]; omega
            · have ek : k = ff[r].length := by omega
              subst ek
              go_wp2
              go_roundw
              case rel =>
                have h := HBL.out
                rw [mk_succ hrf] at h
                exact ⟨r + 1, hr5, by go_num, HLR.out, HS.out, h, HB.out⟩
              case measure => simp [intOf]; omega
        · have er : r = 5 := by omega
          subst er
          go_upto_region 29 with (fail)
          go_wp2
          obtain ⟨ws0, hws0⟩ : ∃ ws0, ws0 = wr := ⟨_, rfl⟩
          have HSZ : Hid (W.heap.size ≤ ws0.heap.size) := by show _ ≤ _; rw [hws0]; exact HB.out.size
          rw [← hws0] at HLR HS HBL HB ⊢
          clear hws0
          go_loopw [20, 23] (fun mo i wr => ∃ r : Nat, r ≤ 5 ∧ i = .int .i64 r ∧ Below ws0.heap.size ws0 wr ∧ ∃ ms, wr.ownsRow ws0.heap.size 22 1 mo r ms ∧ SlRs wr ms (mm ff r)) (fun _ i _ => 5 - (intOf i).toNat)
          case atStart => exact ⟨0, Nat.zero_le _, rfl, Below.refl _ _, [], ⟨rfl, .inl ⟨rfl, rfl⟩⟩, ⟨rfl, fun j x f h => by simp at h⟩⟩
          case round =>
            obtain ⟨r, hr, rfl, hbr, ms, how, hms⟩ := hrel
            have HBR := hid hbr
            have HOW := hid how
            have HMS := hid hms
            clear hbr how hms
            by_cases hr5 : r < 5
            · have hra : r < al.length := by rw [HA5.out]; exact hr5
              have hrf : r < ff.length := by rw [HF5.out]; exact hr5
              have l1 : (r : Int) < 5 := by omega
              have l0 : (0 : Int) ≤ (r : Int) := by omega
              have hbr : ff[r].length ≤ 140737488351232 := HFB.out _ (List.getElem_mem hrf)
              have c1 := (HLR.out.kept HBR.out HLR.out.lt).cell _ _ (lsOf_get hra hrf)
              have hrm : r < (mk ff 5).length := by rw [mk_len]; exact hrf
              have hrow := HBL.out.row r hra hrm
              rw [mk_get hrf, if_pos hr5] at hrow
              have HRO := hid (hrow.kept HBR.out hrow.lt)
              have HXL : Hid ((List.replicate ff[r].length (bt (10 + r))).length = ff[r].length) := List.length_replicate
              have hw8 : IntKind.u8.wrap (100 + (r : Int)) = 100 + (r : Int) := by rw [IntKind.wrap_u8']; omega
              clear hrow
              go_upto_region 33 with (fail)
              go_wp2
              obtain ⟨wt, hwt⟩ : ∃ wt, wt = wr := ⟨_, rfl⟩
              rw [← hwt] at HBR HOW HMS HRO c1 ⊢
              clear hwt
              go_loopw [24, 25] (fun mv i wr => ∃ k : Nat, k ≤ 64 ∧ i = .int .i64 k ∧ Below wt.heap.size wt wr ∧ MAt wt.heap.size wr al[r] r k (List.replicate ff[r].length (bt (10 + r))) mv) (fun _ i _ => 64 - (intOf i).toNat)
              case atStart => exact ⟨0, Nat.zero_le _, rfl, Below.refl _ _, .inl ⟨rfl, by rw [HXL.out], HRO.out⟩⟩
              case round =>
                obtain ⟨k, hk, rfl, hbk, hma⟩ := hrel
                have HBK := hid hbk
                have HMA := hid hma
                clear hbk hma
                by_cases hk64 : k < 64
                · have l3 : (k : Int) < 64 := by omega
                  obtain ⟨v6, w6, hr6, hm6, hb6⟩ := append_m HBK.out.size HBK.out HMA.out hk64 (by rw [HXL.out]; exact hbr) hr5 22
                  have HR6 := hid hr6
                  have HM6 := hid hm6
                  have HB6 := hid hb6
                  clear hr6 hm6 hb6 c1
                  go_wp2_with (first | (at_builtin; refine wpList_append_by rfl _ _ _ rfl rfl rfl HR6.out ?_))
                  go_roundw
                  case rel => exact ⟨_, _, _, _, _, _, _, _, _, _, _, _, ⟨k + 1, hk64, by go_num, HB6.out, HM6.out⟩, rfl⟩
                  case measure => simp [intOf]; omega
                · have ek : k = 64 := by omega
                  subst ek
                  have HOM : Hid (wr.ownsRow wt.heap.size 5 1 u24 (ff[r].length + 64) (bcells (List.replicate ff[r].length (bt (10 + r)) ++ List.replicate 64 (bt (100 + r))))) := by
                    rcases HMA.out with ⟨h0, _⟩ | ⟨_, h⟩
                    · cases h0
                    · rw [HXL.out] at h; exact h
                  have HSR := hid (slR_of_owns (by simp) (by omega) HOM.out)
                  clear HMA c1
                  have HYS : Hid (mm ff (r + 1) = mm ff r ++ [List.replicate ff[r].length (bt (10 + r)) ++ List.replicate 64 (bt (100 + r))]) := mm_succ hrf
                  generalize hY : List.replicate ff[r].length (bt (10 + r)) ++ List.replicate 64 (bt (100 + r)) = Y at *
                  clear hY
                  obtain ⟨am, capm, em, hcm⟩ := HSR.out.cell
                  subst em
                  clear hcm
                  have hkk := Keeps.of_below (B := 0) HBK.out (Nat.zero_le _)
                  have HOW2 := hid (owns_keeps HOW.out hkk)
                  have HMS2 : Hid (SlRs wr ms (mm ff r)) := HMS.out.mono (fun b cur h => h.kept HBK.out h.lt)
                  have HBR2 : Hid (Below ws0.heap.size ws0 wr) := HBR.out.trans (HBK.out.mono HBR.out.size)
                  clear hkk
                  obtain ⟨v7, w7', hr7, ho7, hg7⟩ := append_l (a := some ⟨wr.heap.size, 0, none⟩) (n := 1) (cap := 1) (ys := [.slice (some ⟨am, 0, none⟩) Y.length capm]) (HOW2.out.alloc (.cells #[.slice (some ⟨am, 0, none⟩) Y.length capm] 22)) 35 (cells_new1 wr _) rfl (by simp [Value.oneCell']) (by omega) (Nat.le_trans HBR2.out.size (below_grow (Below.refl _ _) _).size) (by simp)
                  have HR7 := hid hr7
                  have HO7 := hid ho7
                  have HG7 := hid hg7
                  clear hr7 ho7 hg7
                  go_wp2_with (first | (at_builtin; refine wpList_append_by rfl _ _ _ rfl rfl rfl HR7.out ?_))
                  go_roundw
                  case rel =>
                    have hal := below_grow (Below.refl wr.heap.size wr) (.cells #[.slice (some ⟨am, 0, none⟩) Y.length capm] 22)
                    have hba := HBR2.out.trans (hal.mono HBR2.out.size)
                    have how2 := HOW2.out.alloc (.cells #[.slice (some ⟨am, 0, none⟩) Y.length capm] 22)
                    have hgr : ∀ b cur, Row (wr.alloc (.cells #[.slice (some ⟨am, 0, none⟩) Y.length capm] 22)) b cur 5 → Row w7' b cur 5 := fun b cur h => h.of_block (HG7.out.block b h.lt (fun e => by
                      obtain ⟨cc, r2⟩ := owns_block how2 b e.symm
                      exact absurd (h.type r2) (by decide)))
                    have hsl : SlRs w7' (ms ++ [.slice (some ⟨am, 0, none⟩) Y.length capm]) (mm ff (r + 1)) := by
                      rw [HYS.out]
                      exact ((HMS2.out.snoc HSR.out).mono (fun b cur h => h.alloc _)).mono hgr
                    first
                      | exact ⟨r + 1, hr5, by go_num, below_grown hba how2 HG7.out hba.size, _, HO7.out, hsl⟩
                      | exact ⟨_, _, _, _, _, _, _, _, _, _, _, _, _, _, _, _, _, _, _, _, _, _, _, _, _, _, _, _, ⟨r + 1, hr5, by go_num, below_grown hba how2 HG7.out hba.size, _, HO7.out, hsl⟩, rfl⟩
                  case measure => simp [intOf]; omega
            · have er : r = 5 := by omega
              subst er
              have HLRE := hid (HLR.out.kept HBR.out HLR.out.lt)
              have HSE := hid (HS.out.kept (HBR.out.mono HS.out.hM))
              have HBLE := hid (HBL.out.kept HBR.out HBL.out.lt)
              have HBE : Hid (Below W.heap.size W wr) := HB.out.trans (HBR.out.mono HSZ.out)
              obtain ⟨ao, capo, rfl, hco, hlo, hao⟩ := owns_slice HOW.out
              have HCO := hid hco
              clear HLR HS HBL HB HBR hco hlo hao HOW
              go_upto_region 38 with (fail)
              go_wp2
              obtain ⟨we, hwe⟩ : ∃ we, we = wr := ⟨_, rfl⟩
              rw [← hwe] at HLRE HSE HBLE HBE HCO HMS ⊢
              clear hwe
              go_loopw [26] (fun i wr => ∃ r : Nat, r ≤ 5 ∧ i = .int .i64 r ∧ wr = we) (fun i _ => 5 - (intOf i).toNat)
              case atStart => exact ⟨0, Nat.zero_le _, rfl, rfl⟩
              case round =>
                obtain ⟨r, hr, rfl, hwr⟩ := hrel
                rw [hwr]
                clear hwr
                by_cases hr5 : r < 5
                · have hra : r < al.length := by rw [HA5.out]; exact hr5
                  have hrf : r < ff.length := by rw [HF5.out]; exact hr5
                  have l1 : (r : Int) < 5 := by omega
                  have l0 : (0 : Int) ≤ (r : Int) := by omega
                  have hbr : ff[r].length ≤ 140737488351232 := HFB.out _ (List.getElem_mem hrf)
                  have c1 := HLRE.out.cell _ _ (lsOf_get hra hrf)
                  have hrm : r < (mk ff 5).length := by rw [mk_len]; exact hrf
                  have hrow := HBLE.out.row r hra hrm
                  rw [mk_get hrf, if_pos hr5] at hrow
                  have hml : ms.length = 5 := by rw [HMS.out.len, mm_len]
                  have hrms : r < ms.length := by rw [hml]; exact hr5
                  obtain ⟨go, oo, rfl, co⟩ := HCO.out r hrms
                  obtain ⟨bm, capm, em, hcm⟩ := (HMS.out.each r _ _ (List.getElem?_eq_getElem hrms) (mm_get hr5 hrf)).cell
                  rw [em] at co
                  have HC1 : Hid (∀ k, k < ff[r].length → we.cell? ⟨al[r], k, none⟩ = some (.int .u8 (10 + (r : Int)))) := fun k hk => by
                    rw [hrow.cell k _ (bcells_get (by simpa using hk)), List.getElem_replicate, ub_bt _ (by omega)]
                    simp
                  have HC2 : Hid (∀ k, k < ff[r].length → we.cell? ⟨bm, k, none⟩ = some (.int .u8 (10 + (r : Int)))) := fun k hk => by
                    rw [hcm k (by simp; omega), List.getElem_append_left (by simpa using hk), List.getElem_replicate, ub_bt _ (by omega)]
                    simp
                  have HC3 : Hid (∀ k, ff[r].length ≤ k → k < ff[r].length + 64 → we.cell? ⟨bm, k, none⟩ = some (.int .u8 (100 + (r : Int)))) := fun k hk hk2 => by
                    rw [hcm k (by simp; omega), List.getElem_append_right (by simpa using hk), List.getElem_replicate, ub_bt _ (by omega)]
                    simp
                  have eL : (List.replicate ff[r].length (bt (10 + r)) ++ List.replicate 64 (bt (100 + r))).length = ff[r].length + 64 := by simp
                  rw [eL] at co
                  have hw8 : IntKind.u8.wrap (10 + (r : Int)) = 10 + (r : Int) := by rw [IntKind.wrap_u8']; omega
                  have hw9 : IntKind.u8.wrap (100 + (r : Int)) = 100 + (r : Int) := by rw [IntKind.wrap_u8']; omega
                  clear hrow em hcm eL
                  generalize ff[r].length = nr at *
                  generalize al[r] = ar at *
                  go_upto_region 41 with (fail)
                  go_wp2
                  go_loopw [27] (fun i wr => ∃ k : Nat, k ≤ nr + 64 ∧ i = .int .i64 k ∧ wr = we) (fun i _ => nr + 64 - (intOf i).toNat)
                  case atStart => exact ⟨0, Nat.zero_le _, rfl, rfl⟩
                  case round =>
                    obtain ⟨k, hk, rfl, hwr⟩ := hrel
                    rw [hwr]
                    clear hwr
                    by_cases hkl : k < nr + 64
                    · have m1 : (k : Int) < ((nr + 64 : Nat) : Int) := by omega
                      have m1b : (k : Int) < (nr : Int) + 64 := by omega
                      have m2 : (nr : Int) ≤ 140737488351232 := by omega
                      by_cases hkn : k < nr
                      · have e1 := HC1.out k hkn
                        have e2 := HC2.out k hkn
                        have m3 : (k : Int) < (nr : Int) := by omega
                        have m4 : decide ((nr : Int) ≤ (k : Int)) = false := decide_eq_false (by omega)
                        have m5 : decide (nr ≤ k) = false := decide_eq_false (by omega)
                        go_wp2
                        go_roundw
                        case rel => exact ⟨k + 1, hkl, by go_num, by first | rfl | trivial⟩
                        case measure => simp [intOf]; omega
                      · have e2 := HC3.out k (by omega) hkl
                        have m3 : decide ((k : Int) < (nr : Int)) = false := decide_eq_false (by omega)
                        have m3b : decide (k < nr) = false := decide_eq_false (by omega)
                        have m4 : (nr : Int) ≤ (k : Int) := by omega
                        have m5 : nr ≤ k := by omega
                        go_wp2
                        go_roundw
                        case rel => exact ⟨k + 1, hkl, by go_num, by first | rfl | trivial⟩
                        case measure => simp [intOf]; omega
                    · have ek : k = nr + 64 := by omega
                      subst ek
                      go_wp2
                      go_roundw
                      case rel => exact ⟨r + 1, hr5, by go_num, by first | rfl | trivial⟩
                      case measure => simp [intOf]; omega
                · have er : r = 5 := by omega
                  subst er
                  clear HLRE HBLE HMS HCO
                  go_upto_region 47 with (go_at_call 13; refine (NetS.take (j := 0) HSE.out (by simp)).mono ?_; rintro e x1 ⟨d1, rfl, hg5, hr5, hn5, hk5⟩; have HS1 : Hid (NetS M W.heap.size x1 p g [o]) := hn5; have HR1 : Hid (Row x1 d1 (bcells f) 5) := hr5; have HB1 := hid (HBE.out.trans hk5.below); clear hg5 hr5 hn5 hk5)
                  refine wp_world fun x2 HW => ?_
                  have HK2 : Hid (Below x1.heap.size x1 x2) := by show Below _ _ _; rw [HW.out]; exact below_grow (Below.refl _ _) _
                  have HX2 : Hid (Row x2 x1.heap.size [.slice (some ⟨d1, 0, none⟩) f.length f.length, .bool false] 32) := by show Row _ _ _ _; rw [HW.out]; exact Row.new' _ _ _ _ _ rfl rfl
                  have HS2 := hid (HS1.out.kept (HK2.out.mono HS1.out.hM))
                  have HR2 := hid (HR1.out.kept HK2.out HR1.out.lt)
                  have HB2 : Hid (Below W.heap.size W x2) := HB1.out.trans (HK2.out.mono HB1.out.size)
                  generalize x1.heap.size = bq at *
                  clear HW HK2 HS1 HR1 HB1 HSE HBE
                  go_upto_region 48 with (go_at_call 13; refine (NetS.take (j := 0) HS2.out (by simp)).mono ?_; rintro e x3 ⟨d3, rfl, hg5, hr5, hn5, hk5⟩; have HR3 : Hid (Row x3 d3 (bcells o) 5) := hr5; have HK3 := hid hk5; clear hg5 hr5 hn5 hk5)
                  refine wp_world fun x4 HW => ?_
                  have HK4 : Hid (Below x3.heap.size x3 x4) := by show Below _ _ _; rw [HW.out]; exact below_grow (Below.refl _ _) _
                  have HX4 : Hid (Row x4 x3.heap.size [.slice (some ⟨d3, 0, none⟩) o.length o.length, .bool false] 32) := by show Row _ _ _ _; rw [HW.out]; exact Row.new' _ _ _ _ _ rfl rfl
                  have hx2 := HK3.out.row HX2.out (by decide) (by decide)
                  have hr2 := HK3.out.row HR2.out (by decide) (by decide)
                  have HX24 := hid (hx2.kept HK4.out hx2.lt)
                  have HR24 := hid (hr2.kept HK4.out hr2.lt)
                  have HR4 := hid (HR3.out.kept HK4.out HR3.out.lt)
                  have HB4 : Hid (Below W.heap.size W x4) := (HB2.out.trans HK3.out.below).trans (HK4.out.mono (Nat.le_trans HB2.out.size HK3.out.size))
                  generalize x3.heap.size = bq2 at *
                  clear HW HK4 HK3 HS2 HR2 HB2 HX2 HR3 hx2 hr2
                  have z0 := HX24.out.cell 0 _ rfl
                  have z1 := HX24.out.cell 1 _ rfl
                  have z2 := HX4.out.cell 0 _ rfl
                  have z3 := HX4.out.cell 1 _ rfl
                  have HSM1 : Hid (Calls Try.prog 14 #[.slice (some ⟨d1, 0, none⟩) f.length f.length, .slice fa f.length fcap] x4 fun e w' => e = .returned (.bool true) ∧ w' = x4) := by
                    have h := same_any (w := x4) (cap := f.length) (cap' := fcap) HR24.out.bytes rfl (HF.out.kept HB4.out) rfl
                    rw [decide_eq_true rfl] at h
                    exact h
                  have HSM2 : Hid (Calls Try.prog 14 #[.slice (some ⟨d3, 0, none⟩) o.length o.length, .slice oa o.length ocap] x4 fun e w' => e = .returned (.bool true) ∧ w' = x4) := by
                    have h := same_any (w := x4) (cap := o.length) (cap' := ocap) HR4.out.bytes rfl (HO.out.kept HB4.out) rfl
                    rw [decide_eq_true rfl] at h
                    exact h
                  go_wp2_with (first
                    | (go_at_call_of 14 (Value.slice (some ⟨d1, 0, none⟩) f.length f.length); refine Calls.mono HSM1.out ?_; rintro e w' ⟨rfl, rfl⟩)
                    | (go_at_call_of 14 (Value.slice (some ⟨d3, 0, none⟩) o.length o.length); refine Calls.mono HSM2.out ?_; rintro e w' ⟨rfl, rfl⟩))
                  go_ret
                  exact ⟨rfl, HB4.out⟩
end Go.Proofs.Ytjnmfedefmemnaa
