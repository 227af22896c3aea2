import Derived.Test.YtkcoabjeaoigdabGrp
namespace Go.Proofs.Ytkcoabjeaoigdab
open Go.RowKit
set_option maxRecDepth 100000

theorem in_of {p : Int} {n : Nat} (h : 0 ≤ p ∧ p < n) : ∃ k : Nat, p = k ∧ k < n ∧ p.toNat = k := ⟨p.toNat, by omega, by omega, rfl⟩
theorem out_of {p : Int} {n : Nat} (h : ¬ (0 ≤ p ∧ p < n)) : p < 0 ∨ (n : Int) ≤ p := by omega
def takeD (D : Nat → Ln) (n : Nat) (p : Int) (b : Bool) : Nat → Ln := if 0 ≤ p ∧ p < n then upd D p.toNat { D p.toNat with on := b } else D
def rttD (D : Nat → Ln) (n : Nat) (p : Int) (ms : Int) : Nat → Ln := if 0 ≤ p ∧ p < n then upd D p.toNat { D p.toNat with r := min (max ms 1) 60000 } else D
theorem take_any {w : World} {g n : Nat} {D : Nat → Ln} (h : GAt w g n D) (p : Int) (b : Bool) :
    Calls Try.prog 8 #[.pointer (some ⟨g, 0, none⟩), .int .i64 p, .bool b] w fun e w' => e = .returned (.tuple #[]) ∧ GAt w' g n (takeD D n p b) ∧ Only [g] w w' := by
  by_cases hp : 0 ≤ p ∧ p < n
  · obtain ⟨k, rfl, hk, hkn⟩ := in_of hp
    have h8 : k < 8 := Nat.lt_of_lt_of_le hk h.le
    have HE : Hid (takeD D n k b = upd D k { D k with on := b }) := by show _ = _; unfold takeD; rw [if_pos hp, hkn]
    have HL := hid (lane_in h hk)
    have a2 := h.cell_on h8
    have f2 := h.frozen (k * 4 + 2)
    have H := hid h
    have HO : Hid (∀ j, j < n → (upd D k { D k with on := b } j).Ok) := ok_upd h.ok (by obtain ⟨a, b, c, d, e, f⟩ := h.ok k hk; exact ⟨a, b, c, d, e, f⟩)
    clear h hp hk hkn
    go_enter Try.func8, Try.ntmps8
    go_wp2_with (go_at_call 19; refine Calls.mono HL.out ?_; rintro e w2 ⟨rfl, rfl⟩)
    refine bodyPost_end (results_none Try.results8 _ _ _) rfl ?_
    refine ⟨rfl, ?_, (Only.refl _ _).setCell _ _ _ (.inl (by simp))⟩
    rw [HE.out]
    exact H.out.set_on h8 b HO.out
  · have HE : Hid (takeD D n p b = D) := by show _ = _; unfold takeD; rw [if_neg hp]
    have HL := hid (lane_out h (out_of hp))
    have H := hid h
    clear h hp
    go_enter Try.func8, Try.ntmps8
    go_wp2_with (go_at_call 19; refine Calls.mono HL.out ?_; rintro e w2 ⟨rfl, rfl⟩)
    refine bodyPost_end (results_none Try.results8 _ _ _) rfl ?_
    exact ⟨rfl, by rw [HE.out]; exact H.out, Only.refl _ _⟩
theorem take_nil {w : World} {p : Int} {b : Bool} : Calls Try.prog 8 #[.pointer none, .int .i64 p, .bool b] w fun e w' => e = .returned (.tuple #[]) ∧ w' = w := by
  have HL := hid (lane_nil (w := w) (p := p))
  go_enter Try.func8, Try.ntmps8
  go_wp2_with (go_at_call 19; refine Calls.mono HL.out ?_; rintro e w2 ⟨rfl, rfl⟩)
  refine bodyPost_end (results_none Try.results8 _ _ _) rfl ?_
  exact ⟨rfl, rfl⟩
theorem rtt_any {w : World} {g n : Nat} {D : Nat → Ln} (h : GAt w g n D) (p : Int) (ms : Int) :
    Calls Try.prog 10 #[.pointer (some ⟨g, 0, none⟩), .int .i64 p, .int .u64 ms] w fun e w' => e = .returned (.tuple #[]) ∧ GAt w' g n (rttD D n p ms) ∧ Only [g] w w' := by
  by_cases hp : 0 ≤ p ∧ p < n
  · obtain ⟨k, rfl, hk, hkn⟩ := in_of hp
    have h8 : k < 8 := Nat.lt_of_lt_of_le hk h.le
    have HE : Hid (rttD D n k ms = upd D k { D k with r := min (max ms 1) 60000 }) := by show _ = _; unfold rttD; rw [if_pos hp, hkn]
    have HL := hid (lane_in h hk)
    have a2 := h.cell_r h8
    have f2 := h.frozen (k * 4 + 3)
    have H := hid h
    have HO : Hid (∀ j, j < n → (upd D k { D k with r := min (max ms 1) 60000 } j).Ok) := ok_upd h.ok (by obtain ⟨a, b, c, d, e, f⟩ := h.ok k hk; exact ⟨a, b, c, d, by simp only; omega, by simp only; omega⟩)
    have ew : IntKind.i64.wrap (min (max ms 1) 60000) = min (max ms 1) 60000 := by rw [IntKind.wrap_i64]; omega
    have ew2 : wrap64 (min (max ms 1) 60000) = min (max ms 1) 60000 := by unfold wrap64; omega
    clear h hp hk hkn
    go_enter Try.func10, Try.ntmps10
    go_wp2_with (go_at_call 19; refine Calls.mono HL.out ?_; rintro e w2 ⟨rfl, rfl⟩)
    refine bodyPost_end (results_none Try.results10 _ _ _) rfl ?_
    refine ⟨rfl, ?_, (Only.refl _ _).setCell _ _ _ (.inl (by simp))⟩
    rw [HE.out]
    exact H.out.set_r h8 _ HO.out
  · have HE : Hid (rttD D n p ms = D) := by show _ = _; unfold rttD; rw [if_neg hp]
    have HL := hid (lane_out h (out_of hp))
    have H := hid h
    clear h hp
    go_enter Try.func10, Try.ntmps10
    go_wp2_with (go_at_call 19; refine Calls.mono HL.out ?_; rintro e w2 ⟨rfl, rfl⟩)
    refine bodyPost_end (results_none Try.results10 _ _ _) rfl ?_
    exact ⟨rfl, by rw [HE.out]; exact H.out, Only.refl _ _⟩
theorem rtt_nil {w : World} {p : Int} {ms : Int} : Calls Try.prog 10 #[.pointer none, .int .i64 p, .int .u64 ms] w fun e w' => e = .returned (.tuple #[]) ∧ w' = w := by
  have HL := hid (lane_nil (w := w) (p := p))
  go_enter Try.func10, Try.ntmps10
  go_wp2_with (go_at_call 19; refine Calls.mono HL.out ?_; rintro e w2 ⟨rfl, rfl⟩)
  refine bodyPost_end (results_none Try.results10 _ _ _) rfl ?_
  exact ⟨rfl, rfl⟩
theorem fld0 (x y : Int) (w : World) : (Instr.field 39 (.agg #[.int .i64 x, .int .i64 y]) 0).run Try.prog w = .ok (.int .i64 x) w := by kernel_rfl
theorem fld1 (x y : Int) (w : World) : (Instr.field 39 (.agg #[.int .i64 x, .int .i64 y]) 1).run Try.prog w = .ok (.int .i64 y) w := by kernel_rfl
/-- What Window answers. -/
def winD (D : Nat → Ln) (n : Nat) (p : Int) : Int × Int := if 0 ≤ p ∧ p < n then ((D p.toNat).c, (D p.toNat).t) else (0, 0)
theorem window_any {w : World} {g n : Nat} {D : Nat → Ln} (h : GAt w g n D) (p : Int) :
    Calls Try.prog 27 #[.pointer (some ⟨g, 0, none⟩), .int .i64 p] w fun e w' => e = .returned (.agg #[.int .i64 (winD D n p).1, .int .i64 (winD D n p).2]) ∧ Below w.heap.size w w' := by
  have hk0 : GAt (w.alloc (.cells #[.int .i64 0, .int .i64 0] 39)) g n D := h.kept (below_grow (Below.refl _ _) _)
  have HR : Hid (Row (w.alloc (.cells #[.int .i64 0, .int .i64 0] 39)) w.heap.size [.int .i64 0, .int .i64 0] 39) := Row.new w [.int .i64 0, .int .i64 0] 39
  have HB := hid (below_grow (Below.refl w.heap.size w) (.cells #[.int .i64 0, .int .i64 0] 39))
  by_cases hp : 0 ≤ p ∧ p < n
  · obtain ⟨k, rfl, hk, hkn⟩ := in_of hp
    have h8 : k < 8 := Nat.lt_of_lt_of_le hk h.le
    have HE : Hid (winD D n k = ((D k).c, (D k).t)) := by show _ = _; unfold winD; rw [if_pos hp, hkn]
    have HL := hid (lane_in hk0 hk)
    have HG := hid (hk0.range2 h8)
    clear h hp hk hkn hk0
    go_enter Try.func27, Try.ntmps27
    go_wp2_with (first
      | (go_at_call 19; refine Calls.mono HL.out ?_; rintro e w2 ⟨rfl, rfl⟩)
      | (show wpList _ _ _ (Oper.mk (some 15) (.load 39 (.tmp 14)) _ _ _ _ :: _) _ _; refine wpList_load_mid rfl 39 (.tmp 14) rfl g (k * 4) rfl _ _ HG.out Try.underlying39 rfl i29 ?_)
      | (show wpList _ _ _ (Oper.mk none (.store 39 (.tmp 4) (.tmp 15)) _ _ _ _ :: _) _ _; refine HR.out.wpStore 39 (.tmp 4) (.tmp 15) [.int .i64 (D k).c, .int .i64 (D k).t] rfl rfl rfl rfl rfl (by simp [Value.oneCell']) i29 ?_))
    refine bodyPost_ret ((HR.out.row _).result Try.results27 _ rfl _ Try.underlying39 rfl i29) rfl ?_
    exact ⟨by rw [HE.out], below_setRow HB.out (Nat.le_refl _) _⟩
  · have HE : Hid (winD D n p = (0, 0)) := by show _ = _; unfold winD; rw [if_neg hp]
    have HL := hid (lane_out hk0 (out_of hp))
    clear h hp hk0
    go_enter Try.func27, Try.ntmps27
    go_wp2_with (first
      | (go_at_call 19; refine Calls.mono HL.out ?_; rintro e w2 ⟨rfl, rfl⟩)
      | (show wpList _ _ _ (Oper.mk none (.store 39 (.tmp 4) (.tmp 11)) _ _ _ _ :: _) _ _; refine HR.out.wpStore 39 (.tmp 4) (.tmp 11) [.int .i64 0, .int .i64 0] rfl rfl rfl rfl rfl (by simp [Value.oneCell']) i29 ?_))
    refine bodyPost_ret ((HR.out.row _).result Try.results27 _ rfl _ Try.underlying39 rfl i29) rfl ?_
    exact ⟨by rw [HE.out], below_setRow HB.out (Nat.le_refl _) _⟩
theorem window_nil {w : World} {p : Int} :
    Calls Try.prog 27 #[.pointer none, .int .i64 p] w fun e w' => e = .returned (.agg #[.int .i64 0, .int .i64 0]) ∧ Below w.heap.size w w' := by
  have HR : Hid (Row (w.alloc (.cells #[.int .i64 0, .int .i64 0] 39)) w.heap.size [.int .i64 0, .int .i64 0] 39) := Row.new w [.int .i64 0, .int .i64 0] 39
  have HB := hid (below_grow (Below.refl w.heap.size w) (.cells #[.int .i64 0, .int .i64 0] 39))
  have HL := hid (lane_nil (w := w.alloc (.cells #[.int .i64 0, .int .i64 0] 39)) (p := p))
  go_enter Try.func27, Try.ntmps27
  go_wp2_with (first
    | (go_at_call 19; refine Calls.mono HL.out ?_; rintro e w2 ⟨rfl, rfl⟩)
    | (show wpList _ _ _ (Oper.mk none (.store 39 (.tmp 4) (.tmp 11)) _ _ _ _ :: _) _ _; refine HR.out.wpStore 39 (.tmp 4) (.tmp 11) [.int .i64 0, .int .i64 0] rfl rfl rfl rfl rfl (by simp [Value.oneCell']) i29 ?_))
  refine bodyPost_ret ((HR.out.row _).result Try.results27 _ rfl _ Try.underlying39 rfl i29) rfl ?_
  exact ⟨rfl, below_setRow HB.out (Nat.le_refl _) _⟩
theorem winD_nonneg {w : World} {g n : Nat} {D : Nat → Ln} (h : GAt w g n D) (p : Int) : 0 ≤ (winD D n p).1 ∧ (winD D n p).1 ≤ 262144 ∧ 0 ≤ (winD D n p).2 ∧ (winD D n p).2 ≤ 262144 := by
  unfold winD
  split
  · next hp =>
    obtain ⟨k, rfl, hk, hkn⟩ := in_of hp
    have := h.ok k hk
    obtain ⟨a, b, c, d, e, f⟩ := this
    rw [hkn]
    exact ⟨by simp only; omega, by simp only; omega, by simp only; omega, by simp only; omega⟩
  · exact ⟨by simp, by simp, by simp, by simp⟩
theorem frames_any {w : World} {g n : Nat} {D : Nat → Ln} (h : GAt w g n D) (p : Int) :
    Calls Try.prog 25 #[.pointer (some ⟨g, 0, none⟩), .int .i64 p] w fun e w' => e = .returned (.int .i64 ((winD D n p).1 / 1024)) ∧ Below w.heap.size w w' := by
  have HW := hid (window_any h p)
  obtain ⟨z0, z1, _, _⟩ := winD_nonneg h p
  clear h
  generalize winD D n p = q at *
  obtain ⟨x, y⟩ := q
  simp only at *
  have ed : x.tdiv 1024 = x / 1024 := Int.tdiv_eq_ediv_of_nonneg z0
  have ew : wrap64 (x / 1024) = x / 1024 := by unfold wrap64; omega
  have hfd := fld0 x y
  go_enter Try.func25, Try.ntmps25
  go_wp2_with (go_at_call 27; refine Calls.mono HW.out ?_; rintro e w2 ⟨rfl, hb⟩; have HB := hid hb; clear hb)
  go_ret
  exact ⟨rfl, HB.out⟩
theorem frames_nil {w : World} {p : Int} : Calls Try.prog 25 #[.pointer none, .int .i64 p] w fun e w' => e = .returned (.int .i64 0) ∧ Below w.heap.size w w' := by
  have HW := hid (window_nil (w := w) (p := p))
  have hfd := fld0 0 0
  go_enter Try.func25, Try.ntmps25
  go_wp2_with (go_at_call 27; refine Calls.mono HW.out ?_; rintro e w2 ⟨rfl, hb⟩; have HB := hid hb; clear hb)
  go_ret
  exact ⟨rfl, HB.out⟩
end Go.Proofs.Ytkcoabjeaoigdab
