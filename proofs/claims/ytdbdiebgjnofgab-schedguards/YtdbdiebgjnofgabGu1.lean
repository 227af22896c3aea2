import Derived.Test.YtdbdiebgjnofgabLawCall
import Derived.BigQuiet
import Derived.Deep.CutRange
import Derived.Lib.QuietBelow
namespace Go.Proofs.Ytdbdiebgjnofgab
open Go.RowKit Go.Maps Go.Sort
set_option maxRecDepth 100000

/-- What the guard says, where B is the buffer's word. -/
def gdB (L : List Pv) (x : Int) (B : Bool) : Bool := if h : 0 ≤ x ∧ x < L.length then (L[x.toNat]'(by omega)).room && B else false
theorem gdB_at {L : List Pv} {k : Nat} (h : k < L.length) (B : Bool) : gdB L k B = (L[k].room && B) := by
  unfold gdB
  rw [dif_pos (by omega)]
  rfl
theorem gdB_no {L : List Pv} {x : Int} (h : ¬ (0 ≤ x ∧ x < L.length)) (B : Bool) : gdB L x B = false := by
  unfold gdB
  rw [dif_neg h]
set_option maxHeartbeats 4000000 in
theorem guard_any {w : World} {V : Vw} (h : VwAt w V) {p : Nat} (x off len : Int) {B : Bool} (hM : ∀ W, Below w.heap.size w W → Calls Try.prog 26 #[.pointer (some ⟨p, 0, none⟩), .int .i64 x, .int .u64 off, .int .i64 len] W fun e w' => e = .returned (.bool B) ∧ Below W.heap.size W w') :
    Calls Try.prog 27 #[V.val, .pointer (some ⟨p, 0, none⟩), .agg #[.int .i64 x, .int .u64 off, .int .i64 len]] w fun e w' => e = .returned (.bool (gdB V.L x B)) ∧ Below w.heap.size w w' := by
  obtain ⟨a, cap, L, has, want, edge, mss⟩ := V
  obtain ⟨hA, hF⟩ := h
  simp only [Vw.val, Vw.cells] at hA hF ⊢
  obtain ⟨n, hn⟩ : ∃ n, L.length = n := ⟨_, rfl⟩
  rw [hn] at hF ⊢
  have hni : (n : Int) ≤ 1466015503701 := by omega
  have HM := hid hM
  have HA := hid hA
  have HN := hid hn
  clear hM hA hn
  have hb0 : Below w.heap.size w (w.alloc (.cells #[.slice a n cap, .bool has, .int .u64 want.off, .int .i64 want.len, .bool want.fin, .slice want.on.a want.on.n want.on.c, .bool want.held, .int .u64 edge, .int .i64 mss] 28)) := (Below.refl _ _).alloc (Nat.le_refl _) _
  have hR0 := Row.new w [.slice a n cap, .bool has, .int .u64 want.off, .int .i64 want.len, .bool want.fin, .slice want.on.a want.on.n want.on.c, .bool want.held, .int .u64 edge, .int .i64 mss] 28
  obtain ⟨G, hG⟩ : ∃ G, gdB L x B = G := ⟨_, rfl⟩
  rw [hG]
  have HG := hid hG
  clear hG
  go_enter Try.func27, Try.ntmps27
  generalize hw0 : w.alloc (.cells #[.slice a n cap, .bool has, .int .u64 want.off, .int .i64 want.len, .bool want.fin, .slice want.on.a want.on.n want.on.c, .bool want.held, .int .u64 edge, .int .i64 mss] 28) = w0 at *
  have hb1 := hb0.trans (((Below.refl w0.heap.size w0).alloc (Nat.le_refl _) (.cells #[.int .i64 x, .int .u64 off, .int .i64 len] 32)).mono hb0.size)
  have hR1 := Row.new w0 [.int .i64 x, .int .u64 off, .int .i64 len] 32
  have hR2 := hR0.kept ((Below.refl w0.heap.size w0).alloc (Nat.le_refl _) (.cells #[.int .i64 x, .int .u64 off, .int .i64 len] 32)) hR0.lt
  go_upto_region 1 with fail
  generalize w0.alloc (.cells #[.int .i64 x, .int .u64 off, .int .i64 len] 32) = w1 at *
  have v0 := hR2.cell 0 _ rfl
  have p0 := hR1.cell 0 _ rfl
  have p1 := hR1.cell 1 _ rfl
  have p2 := hR1.cell 2 _ rfl
  have HB1 := hid hb1
  clear hw0 hR0 hR1 hR2 hb0 hb1
  generalize w0.heap.size = bp at *
  by_cases hx0 : x < 0
  · have hd : decide (x < 0) = true := decide_eq_true hx0
    have hG0 := HG.out
    rw [gdB_no (by omega)] at hG0
    subst hG0
    go_wp2_with fail
    go_ret
    exact ⟨rfl, HB1.out⟩
  · have hd : decide (x < 0) = false := decide_eq_false hx0
    by_cases hxn : (n : Int) ≤ x
    · have hd2 : decide ((n : Int) ≤ x) = true := decide_eq_true hxn
      have hG0 := HG.out
      rw [gdB_no (by have := HN.out; omega)] at hG0
      subst hG0
      go_wp2_with fail
      go_ret
      exact ⟨rfl, HB1.out⟩
    · have hd2 : decide ((n : Int) ≤ x) = false := decide_eq_false hxn
      obtain ⟨k, rfl⟩ : ∃ k : Nat, x = k := ⟨x.toNat, by omega⟩
      have hkL : k < L.length := by have := HN.out; omega
      have hG0 := HG.out
      rw [gdB_at hkL] at hG0
      have HG0 := hid hG0
      clear hG0 HG
      obtain ⟨g, o, rfl, hc⟩ := HA.out k hkL
      have hc' : ∀ j v, L[k].cells[j]? = some v → w1.cell? ⟨g, o + k * 12 + j, none⟩ = some v := fun j v hv => cell_kept HB1.out (hc j v hv)
      have hkn : (k : Int) < n := by omega
      have hk0 : ¬ (k : Int) < 0 := by omega
      generalize L[k] = P at *
      obtain ⟨u, pb, pk, ps, pw, pi, ph, pc⟩ := P
      have c0 : w1.cell? ⟨g, o + k * 12, none⟩ = some (.bool u) := hc' 0 _ rfl
      have c1 := hc' 1 _ rfl
      have c2 := hc' 2 _ rfl
      have c3 := hc' 3 _ rfl
      have c4 := hc' 4 _ rfl
      have c5 := hc' 5 _ rfl
      have c6 := hc' 6 _ rfl
      have c7 := hc' 7 _ rfl
      have c8 := hc' 8 _ rfl
      have c9 := hc' 9 _ rfl
      have c10 := hc' 10 _ rfl
      have c11 := hc' 11 _ rfl
      clear hc hc'
      have HRM := hid (fun W => room_any W ⟨u, pb, pk, ps, pw, pi, ph, pc⟩)
      generalize Pv.room ⟨u, pb, pk, ps, pw, pi, ph, pc⟩ = R at *
      cases R with
      | false =>
        go_wp2_with (go_at_call 56; refine (HRM.out _).mono ?_; rintro e w3 ⟨rfl, hb3⟩; have HB3 := hid (HB1.out.trans (hb3.mono HB1.out.size)); clear hb3)
        go_ret
        exact ⟨by rw [← HG0.out]; rfl, HB3.out⟩
      | true =>
        go_wp2_with (first | (go_at_call 56; refine (HRM.out _).mono ?_; rintro e w3 ⟨rfl, hb3⟩; have HB3 := hid (HB1.out.trans (hb3.mono HB1.out.size)); have t0 := cell_kept hb3 p0; have t1 := cell_kept hb3 p1; have t2 := cell_kept hb3 p2; clear hb3) | (go_at_call 26; refine (HM.out _ HB3.out).mono ?_; rintro e w4 ⟨rfl, hb4⟩; have HB4 := hid (HB3.out.trans (hb4.mono HB3.out.size)); clear hb4))
        go_ret
        exact ⟨by rw [← HG0.out]; rfl, HB4.out⟩
set_option maxHeartbeats 4000000 in
theorem guard_nil {w : World} (V : Vw) (x off len : Int) :
    Calls Try.prog 27 #[V.val, .pointer none, .agg #[.int .i64 x, .int .u64 off, .int .i64 len]] w fun e w' => e = .returned (.bool false) ∧ Below w.heap.size w w' := by
  obtain ⟨a, cap, L, has, want, edge, mss⟩ := V
  simp only [Vw.val, Vw.cells]
  generalize L.length = n
  have hb0 : Below w.heap.size w (w.alloc (.cells #[.slice a n cap, .bool has, .int .u64 want.off, .int .i64 want.len, .bool want.fin, .slice want.on.a want.on.n want.on.c, .bool want.held, .int .u64 edge, .int .i64 mss] 28)) := (Below.refl _ _).alloc (Nat.le_refl _) _
  have HB := hid (hb0.alloc hb0.size (.cells #[.int .i64 x, .int .u64 off, .int .i64 len] 32))
  go_enter Try.func27, Try.ntmps27
  go_wp2_with fail
  go_ret
  exact ⟨rfl, HB.out⟩
/-- Ints in memory. -/
def IntsIn (w : World) (a : Option Addr) (l : List Int) : Prop := ∀ k (h : k < l.length), ∃ g o, a = some ⟨g, o, none⟩ ∧ w.cell? ⟨g, o + k, none⟩ = some (.int .i64 l[k])
set_option maxHeartbeats 2000000 in
theorem sameInts_yes {w : World} {a a' : Option Addr} {n c c' : Nat} {l : List Int} (hx : IntsIn w a l) (hy : IntsIn w a' l) (hn : l.length = n) (hs : n ≤ 8) :
    Calls Try.prog 57 #[.slice a n c, .slice a' n c'] w fun e w' => e = .returned (.bool true) ∧ Below w.heap.size w w' := by
  have HX := hid hx
  have HY := hid hy
  have HN := hid hn
  have hni : (n : Int) ≤ 8 := by omega
  clear hx hy hn
  go_enter Try.func57, Try.ntmps57
  go_wp2_with fail
  go_loopw [5] (fun s5 wr => ∃ i : Nat, i ≤ n ∧ s5 = .int .i64 i ∧ Hid (Below w.heap.size w wr)) (fun s _ => n - (intOf s).toNat)
  case atStart => exact ⟨0, Nat.zero_le _, rfl, hid (Below.refl _ _)⟩
  case round =>
    obtain ⟨i, hi, rfl, HB⟩ := hrel
    by_cases hlt : i < n
    · have hii : (i : Int) < n := by omega
      obtain ⟨g, o, rfl, h1⟩ := HX.out i (by have := HN.out; omega)
      obtain ⟨g', o', rfl, h2⟩ := HY.out i (by have := HN.out; omega)
      generalize l[i]'(by have := HN.out; omega) = z at *
      replace h1 := cell_kept HB.out h1
      replace h2 := cell_kept HB.out h2
      go_upto_region 6 with fail
      go_cut [25] from 17 to 25 (fun s25 wx => s25 = .bool false ∧ Below wr.heap.size wr wx)
      case first =>
        replace h1 := fun d os => cell_regrown (d := d) (os := os) h1
        replace h2 := fun d os => cell_regrown (d := d) (os := os) h2
        refine wp_region_quiet_below (by kernel_rfl) (by decide +kernel) ?_
        iterate 9 (quiet_step (fail))
        refine wpQuiet_nil ?_
        intro _ hw'
        obtain ⟨⟨dq, osq⟩, hw''⟩ := hw'
        subst hw''
        go_wp2_with fail
        go_meet
        exact ⟨rfl, below_regrown wr dq osq⟩
      case rest =>
        obtain ⟨rfl, hb2⟩ := hcut
        have HB2 := hid (HB.out.trans (hb2.mono HB.out.size))
        clear hb2
        go_wp2_with fail
        go_roundw
        case rel => exact ⟨i + 1, hlt, by go_num, HB2⟩
        case measure => simp [intOf]; omega
    · have hii : ¬ (i : Int) < n := by omega
      go_wp2_with fail
      go_ret
      exact ⟨rfl, HB.out⟩
set_option maxHeartbeats 2000000 in
theorem sameChunk_yes {w : World} {a a' : Option Addr} {n c c' : Nat} {l : List Int} (off len : Int) (fin held : Bool) (hx : IntsIn w a l) (hy : IntsIn w a' l) (hn : l.length = n) (hs : n ≤ 8) :
    Calls Try.prog 28 #[.agg #[.int .u64 off, .int .i64 len, .bool fin, .slice a n c, .bool held], .agg #[.int .u64 off, .int .i64 len, .bool fin, .slice a' n c', .bool held]] w fun e w' => e = .returned (.bool true) ∧ Below w.heap.size w w' := by
  have hb0 : Below w.heap.size w (w.alloc (.cells #[.int .u64 off, .int .i64 len, .bool fin, .slice a n c, .bool held] 26)) := (Below.refl _ _).alloc (Nat.le_refl _) _
  have hb1 := hb0.alloc hb0.size (.cells #[.int .u64 off, .int .i64 len, .bool fin, .slice a' n c', .bool held] 26)
  have HB := hid hb1
  have HS : Hid (∀ W, Below w.heap.size w W → Calls Try.prog 57 #[.slice a n c, .slice a' n c'] W fun e w' => e = .returned (.bool true) ∧ Below W.heap.size W w') := fun W hW => sameInts_yes (fun k hk => by obtain ⟨g, o, e, h⟩ := hx k hk; exact ⟨g, o, e, cell_kept hW h⟩) (fun k hk => by obtain ⟨g, o, e, h⟩ := hy k hk; exact ⟨g, o, e, cell_kept hW h⟩) hn hs
  clear hx hy hn hs hb0 hb1
  go_enter Try.func28, Try.ntmps28
  go_wp2_with (go_at_call 57; refine (HS.out _ HB.out).mono ?_; rintro e w3 ⟨rfl, hb3⟩; have HB3 := hid (HB.out.trans (hb3.mono HB.out.size)); clear hb3)
  go_ret
  exact ⟨rfl, HB3.out⟩
end Go.Proofs.Ytdbdiebgjnofgab
