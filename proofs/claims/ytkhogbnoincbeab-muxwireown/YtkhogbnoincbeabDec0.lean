import Derived.Test.YtkhogbnoincbeabSc5
import Derived.Test.YtkhogbnoincbeabNewSc
namespace Go.Proofs.Ytkhogbnoincbeab
open Go.RowKit Go.Maps Go.Sort
set_option maxRecDepth 100000

def DcAns (w : World) (l : List (BitVec 8)) (e : Ending) (w' : World) : Prop :=
  Below w.heap.size w w' ∧
  ((¬ (allA PF.zero l).1 = 0 ∧ e = .returned (.tuple #[zfr, .int .i64 0, .int .i64 (allA PF.zero l).1])) ∨
   ((allA PF.zero l).1 = 0 ∧ ∃ d, e = .returned (.tuple #[.agg #[.int .i64 (allA PF.zero l).2.1.k, .int .u64 (allA PF.zero l).2.1.s, .int .u64 (allA PF.zero l).2.1.n, .int .i64 (allA PF.zero l).2.1.c, .int .i64 (allA PF.zero l).2.1.h, d], .int .i64 ((l.length : Int) - ((allA PF.zero l).2.2.length : Int)), .int .i64 0]) ∧ Dt w' w.heap.size d (allA PF.zero l).2.1.bs))
theorem dec_door {tmps : Array Value} {w4 : World} {b0 : Nat} {k s n c h : Int} {d x y : Value} {R : Ending → World → Prop} (h4 : tmps.getD 2 undef = .pointer (some ⟨b0, 0, none⟩)) (h5 : tmps.getD 3 undef = x) (h6 : tmps.getD 4 undef = y) (R4 : Row w4 b0 [.int .i64 k, .int .u64 s, .int .u64 n, .int .i64 c, .int .i64 h, d] 41)
    (hR : R (.returned (.tuple #[.agg #[.int .i64 k, .int .u64 s, .int .u64 n, .int .i64 c, .int .i64 h, d], x, y])) w4) :
    bodyPost Try.prog Try.f22 R Exit.ret { tmps := tmps, defers := [] } w4 := by
  have z0 := R4.cell 0 _ rfl
  have z1 := R4.cell 1 _ rfl
  have z2 := R4.cell 2 _ rfl
  have z3 := R4.cell 3 _ rfl
  have z4 := R4.cell 4 _ rfl
  have z5 := R4.cell 5 _ rfl
  rw [Array.getD_eq_getD_getElem?] at h4 h5 h6
  refine bodyPost_ret (v := .tuple #[.agg #[.int .i64 k, .int .u64 s, .int .u64 n, .int .i64 c, .int .i64 h, d], x, y]) ?_ rfl hR
  simp [results, Try.results22, go_sem, z0, z1, z2, z3, z4, z5, h4, h5, h6]
set_option maxHeartbeats 2000000 in
theorem decode_any (w : World) (a : Option Addr) (l : List (BitVec 8)) (L cap : Nat) (hB : BytesAt w a l) (hL : l.length = L) (hc : L ≤ cap) (hm : cap ≤ maxLen) (hz : a = none → cap = 0) : Calls Try.prog 22 #[.slice a L cap] w (DcAns w l) := by
  subst hL
  obtain ⟨b0, hb0⟩ : ∃ b0, b0 = w.heap.size := ⟨_, rfl⟩
  obtain ⟨w1, hw1⟩ : ∃ w1, w1 = w.alloc (.cells #[.int .i64 0, .int .u64 0, .int .u64 0, .int .i64 0, .int .i64 0, .slice none 0 0] 41) := ⟨_, rfl⟩
  have hb1 : Below w.heap.size w w1 := by rw [hw1]; exact below_new _ _
  have R1 : Row w1 b0 [.int .i64 0, .int .u64 0, .int .u64 0, .int .i64 0, .int .i64 0, .slice none 0 0] 41 := by rw [hw1, hb0]; exact Row.new _ _ _
  have HNS := hid (newScan_any w1)
  have hz1 : w1.heap.size = b0 + 1 := by rw [hw1, hb0]; simp
  have HTK : Hid (∀ w2, Sc w2 w1.heap.size (.slice none 0 0) 0 0 0 0 0 (.slice none 0 0) → Below w1.heap.size w1 w2 → Calls Try.prog 25 #[.pointer (some ⟨w1.heap.size, 0, none⟩), .slice a l.length cap] w2 (TkAns w2.heap.size w2 w1.heap.size l)) := fun w2 hs hb =>
    take_any hs ⟨a, cap, rfl, (hB.kept hb1).kept hb, ⟨hc, hm⟩, hz, fun g o e hl hg => by
      obtain ⟨g', o', e', c'⟩ := hB 0 hl
      rw [e] at e'
      injection e' with e'
      injection e' with e4 e5
      have := World.block_lt_of_cell? w _ c'
      simp only at this
      omega⟩
  have HR1 := hid R1
  have HB1 := hid hb1
  have HZ1 := hid hz1
  have HB0 := hid hb0
  have HW1 := hid hw1
  clear hB hc hm hz hb1 R1 hz1 hb0 hw1
  generalize hp : w1.heap.size = p at *
  have HP := hid hp
  clear hp
  generalize hr : allA PF.zero l = r at *
  by_cases h0 : r.1 = 0
  · have HT2 : Hid (∀ w2, Sc w2 p (.slice none 0 0) 0 0 0 0 0 (.slice none 0 0) → Below p w1 w2 → Calls Try.prog 25 #[.pointer (some ⟨p, 0, none⟩), .slice a l.length cap] w2 fun e w3 => Fr (fun x => x = p) w2 w3 ∧ ∃ a9 n9 c9, e = .returned (.tuple #[.agg #[.int .i64 r.2.1.k, .int .u64 r.2.1.s, .int .u64 r.2.1.n, .int .i64 r.2.1.c, .int .i64 r.2.1.h, .slice a9 n9 c9], .int .i64 ((l.length : Int) - (r.2.2.length : Int)), .int .i64 0]) ∧ Dt w3 w2.heap.size (.slice a9 n9 c9) r.2.1.bs) := fun w2 hs hb => by
      refine (HTK.out w2 hs hb).mono ?_
      rintro e w3 ⟨_, hf, hor⟩
      rw [hr] at hor
      rcases hor with ⟨hh, _⟩ | ⟨_, d, he, hd⟩
      · exact absurd h0 hh
      · have hd3 : ∃ a9 n9 c9, d = .slice a9 n9 c9 := by
          rcases hd with ⟨rfl, e⟩ | ⟨g, rfl, _⟩
          · exact ⟨none, 0, 0, rfl⟩
          · exact ⟨_, _, _, rfl⟩
        obtain ⟨a9, n9, c9, rfl⟩ := hd3
        exact ⟨hf, a9, n9, c9, he, hd⟩
    have HH0 := hid h0
    have HRR := hid hr
    clear h0 hr HTK
    go_enter Try.func22, Try.ntmps22
    go_upto_region 1 with fail
    rw [← HW1.out, ← HB0.out]
    clear HW1
    go_wp2_with (first | (go_at_call 24; refine HNS.out.mono ?_; rintro e w2 ⟨rfl, hs2, hb2⟩; have HS2 := hid hs2; have HB2 := hid hb2; clear hs2 hb2) | (go_at_call 25; refine (HT2.out w2 HS2.out HB2.out).mono ?_; rintro e w3 ⟨hf3, a9, n9, c9, rfl, hd3⟩; have HF3 := hid hf3; have HD3 := hid hd3; have R3 := hf3.row (HR1.out.kept HB2.out (by have := HZ1.out; omega)) (by have := HZ1.out; omega); have y0 := R3.cell 0 _ rfl; have y1 := R3.cell 1 _ rfl; have y2 := R3.cell 2 _ rfl; have y3 := R3.cell 3 _ rfl; have y4 := R3.cell 4 _ rfl; have y5 := R3.cell 5 _ rfl; have hfz := fun j => R3.frozen j; have HR3 := hid R3; clear hf3 hd3 R3))
    have R4 := six_row r.2.1.k r.2.1.s r.2.1.n r.2.1.c r.2.1.h (.slice a9 n9 c9) HR3.out
    have F4 := six_fr w3 b0 r.2.1.k r.2.1.s r.2.1.n r.2.1.c r.2.1.h (.slice a9 n9 c9)
    refine dec_door (w4 := six w3 b0 r.2.1.k r.2.1.s r.2.1.n r.2.1.c r.2.1.h (.slice a9 n9 c9)) (x := .int .i64 ((l.length : Int) - (r.2.2.length : Int))) (y := .int .i64 0) rfl rfl rfl R4 ?_
    have hz2 := HB2.out.size
    have hpp := HP.out
    have hzz := HZ1.out
    have hbb := HB0.out
    refine ⟨?_, .inr ⟨by rw [HRR.out]; exact HH0.out, .slice a9 n9 c9, by rw [HRR.out], ?_⟩⟩
    · have k1 : Below w.heap.size w w2 := HB1.out.trans (HB2.out.mono (by omega))
      exact (k1.trans (HF3.out.below (fun x hx => by omega) (by omega))).trans (F4.below (fun x hx => by omega) (by have := HF3.out.size; omega))
    · rw [HRR.out]
      exact (HD3.out.fr F4 (fun x hx => by omega)).less (by omega)
  · have HT2 : Hid (∀ w2, Sc w2 p (.slice none 0 0) 0 0 0 0 0 (.slice none 0 0) → Below p w1 w2 → Calls Try.prog 25 #[.pointer (some ⟨p, 0, none⟩), .slice a l.length cap] w2 fun e w3 => Fr (fun x => x = p) w2 w3 ∧ e = .returned (.tuple #[.agg #[.int .i64 0, .int .u64 0, .int .u64 0, .int .i64 0, .int .i64 0, .slice none 0 0], .int .i64 0, .int .i64 r.1])) := fun w2 hs hb => by
      refine (HTK.out w2 hs hb).mono ?_
      rintro e w3 ⟨_, hf, hor⟩
      rw [hr] at hor
      rcases hor with ⟨_, he⟩ | ⟨hh, _⟩
      · exact ⟨hf, he⟩
      · exact absurd hh h0
    have HH0 := hid h0
    have HRR := hid hr
    clear h0 hr HTK
    go_enter Try.func22, Try.ntmps22
    go_upto_region 1 with fail
    rw [← HW1.out, ← HB0.out]
    clear HW1
    go_wp2_with (first | (go_at_call 24; refine HNS.out.mono ?_; rintro e w2 ⟨rfl, hs2, hb2⟩; have HS2 := hid hs2; have HB2 := hid hb2; clear hs2 hb2) | (go_at_call 25; refine (HT2.out w2 HS2.out HB2.out).mono ?_; rintro e w3 ⟨hf3, rfl⟩; have HF3 := hid hf3; have R3 := hf3.row (HR1.out.kept HB2.out (by have := HZ1.out; omega)) (by have := HZ1.out; omega); have y0 := R3.cell 0 _ rfl; have y1 := R3.cell 1 _ rfl; have y2 := R3.cell 2 _ rfl; have y3 := R3.cell 3 _ rfl; have y4 := R3.cell 4 _ rfl; have y5 := R3.cell 5 _ rfl; have hfz := fun j => R3.frozen j; have HR3 := hid R3; clear hf3 R3))
    have R4 := six_row 0 0 0 0 0 (.slice none 0 0) HR3.out
    have F4 := six_fr w3 b0 0 0 0 0 0 (.slice none 0 0)
    refine dec_door (w4 := six w3 b0 0 0 0 0 0 (.slice none 0 0)) (x := .int .i64 0) (y := .int .i64 r.1) rfl rfl rfl R4 ?_
    have hz2 := HB2.out.size
    have hpp := HP.out
    have hzz := HZ1.out
    have hbb := HB0.out
    refine ⟨?_, .inl ⟨by rw [HRR.out]; exact HH0.out, by rw [HRR.out]; rfl⟩⟩
    have k1 : Below w.heap.size w w2 := HB1.out.trans (HB2.out.mono (by omega))
    exact (k1.trans (HF3.out.below (fun x hx => by omega) (by omega))).trans (F4.below (fun x hx => by omega) (by have := HF3.out.size; omega))
end Go.Proofs.Ytkhogbnoincbeab
