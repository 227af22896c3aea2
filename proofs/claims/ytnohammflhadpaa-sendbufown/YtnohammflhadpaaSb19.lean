import Derived.Test.YtnohammflhadpaaSb18
namespace Go.Proofs.Ytnohammflhadpaa
open Go.RowKit Go.Maps Go.Sort
set_option maxRecDepth 100000

theorem min3u (w : World) (a b c : Int) : (Builtin.min_ #[22, 22, 22] 22 #[.int .u64 a, .int .u64 b, .int .u64 c]).run Try.prog w = .ok (.int .u64 (min (min a b) c)) w := by
  have e1 : ∀ x y : Int, (if y < x then y else x) = min x y := fun x y => by rw [Int.min_def]; split <;> split <;> omega
  simp [Builtin.min_, Builtin.min2, e1]
/-- There are no more chunks than bytes that are not acknowledged. -/
theorem Sb.Ok.few {F : Sb} (h : F.Ok) (hc : F.closed = false) (ha : F.acked ≤ F.end_) : (F.L.length : Int) ≤ F.end_ - F.acked := by
  have key : ∀ i (hi : i < F.L.length), F.acked + 1 + i ≤ F.L[i].off + F.L[i].bs.length := fun i => by
    induction i with
    | zero =>
      intro hi
      have h1 := h.ak F.L[0] (List.getElem_mem hi)
      unfold Ck.behind at h1
      rw [if_neg (by rw [h.cl hc _ (List.getElem_mem hi)]; simp)] at h1
      omega
    | succ i ih =>
      intro hi
      have h1 := ih (by omega)
      have h2 := h.ch i hi
      have h3 := (h.ck F.L[i + 1] (List.getElem_mem hi)).few (h.cl hc _ (List.getElem_mem hi))
      have h4 := List.length_pos_iff.2 h3
      omega
  by_cases hz : F.L.length = 0
  · omega
  · have h1 := key (F.L.length - 1) (by omega)
    have h2 := h.la F.L[F.L.length - 1] (by rw [List.getLast?_eq_getElem?]; exact List.getElem?_eq_getElem (by omega))
    omega
set_option maxHeartbeats 400000 in
theorem cut_nil {w : World} (p : Nat) (ax : Option Addr) (c : Nat) : Calls Try.prog 37 #[.pointer (some ⟨p, 0, none⟩), .slice ax 0 c] w fun e w' => e = .returned (.tuple #[]) ∧ w' = w := by
  go_enter Try.func37, Try.ntmps37
  go_wp2_with fail
  go_loopw [1, 4] (fun s1 _ wr => s1 = .slice ax 0 c ∧ w = wr) (fun _ _ _ => 0)
  case atStart => exact ⟨rfl, rfl⟩
  case round =>
    obtain ⟨rfl, rfl⟩ := hrel
    go_wp2_with fail
    go_end0
    exact ⟨rfl, rfl⟩
/-- How many bytes Write accepts. -/
def Sb.takes (F : Sb) (N : Nat) : Nat := (min (min (N : Int) F.free) (4611686018427387904 - F.end_)).toNat
set_option maxHeartbeats 2000000 in
theorem write_no {w : World} {p : Nat} {F : Sb} {a : Option Addr} {cap : Nat} (h : SbR w p F a cap) (hc : F.closed = true) (v : Value) : Calls Try.prog 11 #[.pointer (some ⟨p, 0, none⟩), v] w fun e w' => e = .returned (.int .i64 0) ∧ w' = w := by
  have c6 : w.cell? ⟨p, 6, none⟩ = some (.bool true) := by rw [← hc]; exact h.row.cell 6 _ rfl
  clear h hc
  go_enter Try.func11, Try.ntmps11
  go_wp2
  go_ret
  exact ⟨rfl, rfl⟩
/-- What Write leaves. -/
def WriteAns (w : World) (p : Nat) (F : Sb) (a : Option Addr) (bs : List (BitVec 8)) (n : Nat) (w' : World) : Prop :=
  (n = 0 ∧ Below w.heap.size w w') ∨ ∃ (w1 : World) (m g t : Nat) (a' : Option Addr) (cap' : Nat), 0 < n ∧ Below w.heap.size w w1 ∧ F.mss = (m : Int) ∧ w.heap.size ≤ g ∧ n ≤ t * m ∧ CutL w1 w' p F a m g 0 (bs.take n) t a' cap'
set_option maxHeartbeats 4000000 in
theorem write_yes {w : World} {p : Nat} {F : Sb} {a : Option Addr} {cap : Nat} (h : SbW w p F a cap) (hc : F.closed = false) (ha : F.acked ≤ F.end_) {ax : Option Addr} {bs : List (BitVec 8)} (hB : BytesAt w ax bs) (N capx : Nat) (hN : bs.length = N) (hcx : N ≤ capx) (hNm : N ≤ 140737488355328) (hz : ax = none → capx = 0)
    (hlt : ∀ d ∈ F.L, ∀ g o, d.a = some ⟨g, o, none⟩ → g < w.heap.size) (halt : ∀ g o, a = some ⟨g, o, none⟩ → g < w.heap.size) (n : Nat) (hn : F.takes N = n) :
    Calls Try.prog 11 #[.pointer (some ⟨p, 0, none⟩), .slice ax N capx] w fun e w' => e = .returned (.int .i64 n) ∧ WriteAns w p F a bs n w' := by
  have hfr : 0 ≤ F.free ∧ F.free ≤ 65536 := by have := h.r.ok.fr; have := h.r.ok.r1; have := h.r.ok.h0; have := h.r.ok.h1; unfold Sb.free; omega
  have hen : 0 ≤ F.end_ ∧ F.end_ ≤ 4611686018427387904 := by have := h.r.ok.e1; have := h.r.ok.h0; have := h.r.ok.h1; omega
  have hni : min (min (N : Int) F.free) (4611686018427387904 - F.end_) = n := by unfold Sb.takes at hn; omega
  have hn1 : n ≤ N ∧ (n : Int) ≤ F.free ∧ F.end_ + n ≤ 4611686018427387904 ∧ n ≤ 65536 := by omega
  have c6 : w.cell? ⟨p, 6, none⟩ = some (.bool false) := by rw [← hc]; exact h.r.row.cell 6 _ rfl
  have HFR := hid (toK (n := 30) (args := #[.pointer (some ⟨p, 0, none⟩)]) (v := .int .i64 F.free) (w := w) (fun w' hb => (free_any (h.r.kept hb)).mono (by rintro e w'' ⟨rfl, q, rfl⟩; exact ⟨rfl, below_drewN (Below.refl _ _) q⟩)))
  have k4 := cell_regrown (h.r.row.cell 4 _ rfl)
  have hmn : ∀ w, (Builtin.min_ #[22, 22, 22] 22 #[.int .u64 (N : Int), .int .u64 F.free, .int .u64 (4611686018427387904 - F.end_)]).run Try.prog w = .ok (.int .u64 (n : Int)) w := fun w => by rw [min3u, hni]
  have H := hid h
  have HC := hid hc
  have HA := hid ha
  have HB := hid hB
  have HN := hid hN
  have HLT := hid hlt
  have HALT := hid halt
  have hN9 : (N : Int) ≤ 140737488355328 := by omega
  have hnf := hn1.2.1
  have hnN := hn1.1
  have hne := hn1.2.2.1
  have hn6 := hn1.2.2.2
  obtain ⟨f0, f1⟩ := hfr
  obtain ⟨e0, e1⟩ := hen
  have wN : IntKind.u64.wrap (N : Int) = N := by rw [IntKind.wrap_u64]; omega
  have wf : IntKind.u64.wrap F.free = F.free := by rw [IntKind.wrap_u64]; omega
  have ws : IntKind.u64.wrap (4611686018427387904 - F.end_) = 4611686018427387904 - F.end_ := by rw [IntKind.wrap_u64]; omega
  clear h hc ha hB hN hlt hn halt hni hn1
  go_enter Try.func11, Try.ntmps11
  go_upto_region 3 with fail
  refine wp_region_quiet_below (by kernel_rfl) (by decide +kernel) ?_
  iterate 13 (quiet_step (first | (go_at_call 30; exact HFR.out _ _)))
  refine wpQuiet_nil ?_
  intro w1 hw'
  have hb1 : Below w.heap.size w w1 := by obtain ⟨⟨dq, osq⟩, hw''⟩ := hw'; rw [hw'']; exact below_regrown w dq osq
  clear hw' HFR k4 wN wf ws hmn c6
  have HB1 := hid hb1
  obtain ⟨P, hP⟩ : ∃ P, bs.take n = P := ⟨_, rfl⟩
  have hPl : P.length = n := by rw [← hP]; have := HN.out; simp; omega
  have HPB : Hid (BytesAt w1 ax P) := fun k hk => by
    obtain ⟨g, o, e, c⟩ := HB.out.kept hb1 k (by have := HN.out; omega)
    refine ⟨g, o, e, ?_⟩
    simp only [← hP, List.getElem_take]
    exact c
  have HCL := hid (clone_any (cap := capx) HPB.out hPl (by omega) hz)
  have hni : (n : Int) ≤ N := by omega
  have hnc : n ≤ capx := by omega
  have hnc2 : (n : Int) ≤ capx := by omega
  clear hb1
  obtain ⟨m, hm⟩ : ∃ m : Nat, F.mss = m := ⟨F.mss.toNat, by have := H.out.r.ok.m0; omega⟩
  have HCT : Hid (∀ w2 a2 c2, BytesAt w2 a2 P → n ≤ c2 → c2 ≤ maxLen → (∀ g o, a2 = some ⟨g, o, none⟩ → w1.heap.size ≤ g ∧ o = 0 ∧ ∃ cur, w2.heap[g]? = some (.cells cur 5 (0, 0))) → Below w1.heap.size w1 w2 →
      Calls Try.prog 37 #[.pointer (some ⟨p, 0, none⟩), .slice a2 n c2] w2 fun e w' => e = .returned (.tuple #[]) ∧ WriteAns w p F a bs n w') := fun w2 a2 c2 h1 h2 h3 h4 h5 => by
    have hw2 : Below w.heap.size w w2 := HB1.out.trans (h5.mono HB1.out.size)
    by_cases hz0 : n = 0
    · subst hz0
      exact (cut_nil p a2 c2).mono (by rintro e w' ⟨rfl, rfl⟩; exact ⟨rfl, .inl ⟨rfl, hw2⟩⟩)
    · obtain ⟨g, o, e, _⟩ := h1 0 (by omega)
      subst e
      obtain ⟨hg1, rfl, cur, hcur⟩ := h4 g o rfl
      have hs1 := HB1.out.size
      have hs2 := h5.size
      have hgl : g < w2.heap.size := (Array.getElem?_eq_some_iff.1 hcur).1
      have hpl := H.out.r.row.lt
      have hfew := H.out.r.ok.few HC.out HA.out
      have hr1 := H.out.r.ok.r1
      have hAA := HA.out
      have hff : (n : Int) ≤ F.room - (F.end_ - min F.acked F.end_) := hnf
      refine (cut_any (H.out.kept hw2) HC.out HA.out h1 n c2 hPl h2 h3 hff hne (by omega) ⟨by omega, hgl, fun g' o' e => by have := HALT.out g' o' e; omega⟩ (fun d hd g' o' e => by have := HLT.out d hd g' o' e; omega) m hm).mono ?_
      rintro e w' ⟨rfl, t, a', cap', ht, hL⟩
      refine ⟨rfl, .inr ⟨w2, m, g, t, a', cap', Nat.pos_of_ne_zero hz0, hw2, hm, by omega, ht, ?_⟩⟩
      rw [hP]
      exact hL
  have wn : IntKind.i64.wrap (n : Int) = n := by rw [IntKind.wrap_i64]; omega
  clear HB HPB hP hPl hm H HC HA HLT HALT
  go_wp2_with (first | (go_at_call 38; refine HCL.out.mono ?_; rintro e w2 ⟨a2, c2, rfl, x1, x2, x3, x4, x5⟩; have HX := hid (HCT.out w2 a2 c2 x1 x2 x3 x4 x5); clear x1 x2 x3 x4 x5) | (go_at_call 37; refine HX.out.mono ?_; rintro e w3 ⟨rfl, hQ⟩; have HQ := hid hQ; clear hQ))
  go_ret
  exact ⟨rfl, HQ.out⟩
end Go.Proofs.Ytnohammflhadpaa
