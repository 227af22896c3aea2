import Derived.Test.YtbkfmknjbdonlaaSent
namespace Go.Proofs.Ytbkfmknjbdonlaa
open Go.RowKit Go.Maps
set_option maxRecDepth 100000

/-- Is this number among those that are told? -/
def tb (S : List Rg) (x : It) : Bool := gapOf S x.num != x.num
theorem tb_iff {S : List Rg} (F : Fit S) (x : It) : tb S x = true ↔ mem S x.num := has_dec F x.num
def lb (to : Int) (x : It) : Bool := decide (x.num + 3 < to)
set_option maxHeartbeats 1000000 in
theorem heardf_any {W : World} {bx q : Nat} {a : Option Addr} {cap : Nat} {S : List Rg} (hc : W.cell? ⟨bx, 0, none⟩ = some (.pointer (some ⟨q, 0, none⟩))) (V : View W q a cap S) (F : Fit S) (x : It) :
    Calls Try.prog 47 #[x.val, .pointer (some ⟨bx, 0, none⟩)] W fun e w' => e = .returned (.bool (tb S x)) ∧ Below W.heap.size W w' := by
  unfold tb
  have hH := has_any (w := W.alloc (.cells x.cells.toArray 60)) x.num (V.kept (below_grow (Below.refl _ _) _)) F
  obtain ⟨n, k, o, l, t⟩ := x
  simp only [It.val, It.cells] at hH ⊢
  have hc' := rcell_kept (below_grow (Below.refl W.heap.size W) (.cells #[.int .u64 n, .int .i64 k, .int .u64 o, .int .i64 l, .int .u64 t] 60)) hc
  generalize (gapOf S n != n) = r at *
  clear V F
  go_enter Try.func47, Try.ntmps47
  go_wp2_with (go_at_call 48; refine hH.mono ?_; rintro e w2 ⟨rfl, hb⟩; have HB := hid hb; clear hb hH)
  go_ret
  exact ⟨rfl, (below_grow (Below.refl W.heap.size W) _).trans (HB.out.mono (below_grow (Below.refl W.heap.size W) _).size)⟩
set_option maxHeartbeats 1000000 in
theorem lostf_any {W : World} {bx : Nat} {to : Int} (hc : W.cell? ⟨bx, 0, none⟩ = some (.int .u64 to)) (x : It) (h0 : 0 ≤ x.num) (h1 : x.num ≤ 9223372036854775807) :
    Calls Try.prog 52 #[x.val, .pointer (some ⟨bx, 0, none⟩)] W fun e w' => e = .returned (.bool (lb to x)) ∧ Below W.heap.size W w' := by
  unfold lb
  obtain ⟨n, k, o, l, t⟩ := x
  simp only [It.val] at h0 h1 ⊢
  have hc' := rcell_kept (below_grow (Below.refl W.heap.size W) (.cells #[.int .u64 n, .int .i64 k, .int .u64 o, .int .i64 l, .int .u64 t] 60)) hc
  have ew : IntKind.u64.wrap (n + 3) = n + 3 := wrapu _ (by omega) (by omega)
  go_enter Try.func52, Try.ntmps52
  go_wp2
  go_ret
  exact ⟨rfl, below_grow (Below.refl W.heap.size W) _⟩
theorem since_any {w : World} (th now : Int) (h0 : 0 ≤ th) (h1 : 0 ≤ now) (h2 : now ≤ 18446744073709551615) :
    Calls Try.prog 50 #[.int .u64 th, .int .u64 now] w fun e w' => e = .returned (.int .u64 (now - min th now)) ∧ w' = w := by
  have ew : IntKind.u64.wrap (now - min th now) = now - min th now := wrapu _ (by omega) (by omega)
  go_enter Try.func50, Try.ntmps50
  go_wp2
  go_ret
  exact ⟨rfl, rfl⟩
/-- The last of these items' number. -/
def lastNum (L : List It) : Int := (L.getLast?.map It.num).getD 0
theorem lastNum_eq {L : List It} (h : L.length ≠ 0) : lastNum L = (L[L.length - 1]'(by omega)).num := by
  unfold lastNum
  rw [List.getLast?_eq_getElem?, List.getElem?_eq_getElem (by omega)]
  rfl
set_option maxHeartbeats 1000000 in
theorem cut_none {w : World} {p b g : Nat} {F : Fl} (h : FlowAt w p b g F) {a : Option Addr} {cap : Nat} :
    Calls Try.prog 53 #[.pointer (some ⟨p, 0, none⟩), .slice a 0 cap] w fun e w' => e = .returned (.bool false) ∧ Below w.heap.size w w' := by
  have c7 := h.row.cell 7 _ rfl
  clear h
  go_enter Try.func53, Try.ntmps53
  go_wp2
  go_quiet (fail)
  go_wp2
  go_ret
  exact ⟨rfl, below_drewN (Below.refl _ _) _⟩
set_option maxHeartbeats 1000000 in
theorem cut_old {w : World} {p b g : Nat} {F : Fl} (h : FlowAt w p b g F) {gl cap n : Nat} {x : Int} (hn : 0 < n) (hn1 : n ≤ 140737488355328) (hx : w.cell? ⟨gl, (n - 1) * 5, none⟩ = some (.int .u64 x)) (hlt : x < F.line) :
    Calls Try.prog 53 #[.pointer (some ⟨p, 0, none⟩), .slice (some ⟨gl, 0, none⟩) n cap] w fun e w' => e = .returned (.bool false) ∧ Below w.heap.size w w' := by
  have c7 := h.row.cell 7 _ rfl
  clear h
  obtain ⟨m, hm⟩ : ∃ m, m = n - 1 := ⟨_, rfl⟩
  rw [← hm] at hx
  have e1 : ((n : Int) == 0) = false := by rw [beq_eq_false_iff_ne]; omega
  have e2 : wrap64 ((n : Int) - 1) = (m : Int) := by unfold wrap64; omega
  have e2' : IntKind.i64.wrap ((n : Int) - 1) = (m : Int) := by rw [IntKind.wrap_i64]; omega
  have e3 : (m : Int) < (n : Int) := by omega
  have e4 : m < n := by omega
  clear hm
  go_enter Try.func53, Try.ntmps53
  go_wp2
  go_quiet (fail)
  go_wp2
  go_ret
  exact ⟨rfl, below_drewN (Below.refl _ _) _⟩
set_option maxHeartbeats 1000000 in
theorem cut_new {w : World} {p b g : Nat} {F : Fl} (h : FlowAt w p b g F) {gl cap n : Nat} {x : Int} (hn : 0 < n) (hn1 : n ≤ 140737488355328) (hx : w.cell? ⟨gl, (n - 1) * 5, none⟩ = some (.int .u64 x)) (hlt : ¬ x < F.line) :
    Calls Try.prog 53 #[.pointer (some ⟨p, 0, none⟩), .slice (some ⟨gl, 0, none⟩) n cap] w fun e w' => e = .returned (.bool true) ∧ FlowAt w' p b g { F with line := F.next } ∧ Only [p] w w' := by
  have c7 := h.row.cell 7 _ rfl
  have hne := h.ne
  obtain ⟨m, hm⟩ : ∃ m, m = n - 1 := ⟨_, rfl⟩
  rw [← hm] at hx
  have e1 : ((n : Int) == 0) = false := by rw [beq_eq_false_iff_ne]; omega
  have e2 : wrap64 ((n : Int) - 1) = (m : Int) := by unfold wrap64; omega
  have e2' : IntKind.i64.wrap ((n : Int) - 1) = (m : Int) := by rw [IntKind.wrap_i64]; omega
  have e3 : (m : Int) < (n : Int) := by omega
  have e4 : m < n := by omega
  have H := hid h
  have HN := hid hne
  clear hm h hne
  go_enter Try.func53, Try.ntmps53
  go_wp2
  go_quiet (fail)
  have hf := FlowAt.kept H.out (below_drewN (Below.refl w.heap.size w) nq)
  have d4 := hf.row.cell 4 _ rfl
  have d7 := hf.row.cell 7 _ rfl
  have g7 := hf.row.frozen 7
  have HF := hid hf
  clear hf c7 hx
  generalize hW : w.drewN nq = wa at *
  have HA : Hid (Below w.heap.size w wa) := by rw [← hW]; exact below_drewN (Below.refl w.heap.size w) nq
  clear hW
  go_wp2
  go_ret
  obtain ⟨n1, n2, n3⟩ := HN.out
  exact ⟨rfl, ⟨HF.out.row.set 7 _, HF.out.map.setCell (fun e => n1 e.symm) _, Row.setOther HF.out.est ⟨p, 7, none⟩ (fun e => n2 e.symm) _⟩, (Only.of_below HA.out (Nat.le_refl _)).setCell p 7 _ (.inl (by simp))⟩
/-- Do these losses begin a row? -/
def cutB (Lo : List It) (line : Int) : Bool := decide (Lo.length ≠ 0) && decide (¬ lastNum Lo < line)
theorem cut_any {w : World} {p b g : Nat} {F : Fl} (h : FlowAt w p b g F) {base : Nat} {a : Option Addr} {cap : Nat} {Lo : List It} (hr : w.ownsRow base 60 5 (.slice a Lo.length cap) Lo.length (flatI Lo)) (hl : Lo.length * 40 ≤ 140737488355328) :
    Calls Try.prog 53 #[.pointer (some ⟨p, 0, none⟩), .slice a Lo.length cap] w fun e w' => e = .returned (.bool (cutB Lo F.line)) ∧ FlowAt w' p b g { F with line := if cutB Lo F.line = true then F.next else F.line } ∧ Only [p] w w' := by
  by_cases h0 : Lo.length = 0
  · have ec : cutB Lo F.line = false := by unfold cutB; simp [h0]
    rw [ec, h0]
    refine (cut_none h).mono ?_
    rintro e w' ⟨rfl, hb⟩
    exact ⟨rfl, h.kept hb, Only.of_below hb (Nat.le_refl _)⟩
  · obtain ⟨a', cap', e, hv⟩ := own_view hr
    obtain ⟨gl, ea, _, hx, _⟩ := hv (Lo.length - 1) (by omega)
    simp only [Value.slice.injEq] at e
    obtain ⟨rfl, _, rfl⟩ := e
    subst ea
    rw [← lastNum_eq h0] at hx
    by_cases hlt : lastNum Lo < F.line
    · have ec : cutB Lo F.line = false := by unfold cutB; simp [hlt]
      rw [ec]
      refine (cut_old h (by omega) (by omega) hx hlt).mono ?_
      rintro e w' ⟨rfl, hb⟩
      exact ⟨rfl, h.kept hb, Only.of_below hb (Nat.le_refl _)⟩
    · have ec : cutB Lo F.line = true := by
        unfold cutB
        rw [decide_eq_true h0, decide_eq_true hlt]
        rfl
      rw [ec]
      refine (cut_new h (by omega) (by omega) hx hlt).mono ?_
      rintro e w' ⟨rfl, hf, ho⟩
      exact ⟨rfl, hf, ho⟩
end Go.Proofs.Ytbkfmknjbdonlaa
