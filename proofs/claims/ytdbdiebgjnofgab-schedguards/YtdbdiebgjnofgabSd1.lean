import Derived.Test.YtdbdiebgjnofgabSd0
namespace Go.Proofs.Ytdbdiebgjnofgab
open Go.RowKit Go.Maps Go.Sort
set_option maxRecDepth 100000

def Pv.plain (p : Pv) : Bool := p.u && !p.b
set_option maxHeartbeats 1000000 in
theorem plain_any (w : World) (p : Pv) : Calls Try.prog 105 #[p.val] w fun e w' => e = .returned (.bool p.plain) ∧ Below w.heap.size w w' := by
  obtain ⟨u, b, k, s, wi, i, h, off, len, fin, on, held⟩ := p
  simp only [Pv.val, Pv.cells, Pv.plain]
  generalize Value.slice on.a on.n on.c = on
  have HB := hid (below_grow (Below.refl w.heap.size w) (.cells #[.bool u, .bool b, .bool k, .int .u64 s, .int .i64 wi, .int .i64 i, .bool h, .int .u64 off, .int .i64 len, .bool fin, on, .bool held] 39))
  cases u <;> cases b
  all_goals
    go_enter Try.func105, Try.ntmps105
    go_wp2
    go_ret
    exact ⟨rfl, HB.out⟩
def Pv.time (p : Pv) : Int := if p.k = true then min (max p.s 1) 60000 else 1000
theorem Pv.time_bd (p : Pv) : 1 ≤ p.time ∧ p.time ≤ 60000 := by unfold Pv.time; split <;> omega
set_option maxHeartbeats 1000000 in
theorem time_any (w : World) (p : Pv) : Calls Try.prog 101 #[p.val] w fun e w' => e = .returned (.int .u64 p.time) ∧ Below w.heap.size w w' := by
  obtain ⟨u, b, k, s, wi, i, h, off, len, fin, on, held⟩ := p
  simp only [Pv.val, Pv.cells, Pv.time]
  generalize Value.slice on.a on.n on.c = on
  have HB := hid (below_grow (Below.refl w.heap.size w) (.cells #[.bool u, .bool b, .bool k, .int .u64 s, .int .i64 wi, .int .i64 i, .bool h, .int .u64 off, .int .i64 len, .bool fin, on, .bool held] 39))
  cases k
  all_goals
    go_enter Try.func101, Try.ntmps101
    go_wp2
    go_ret
    exact ⟨rfl, HB.out⟩
/-- Is a path on call? (o: another one that is no backup is usable.) -/
def Pv.call (o : Bool) (p : Pv) : Bool := p.u && !(p.b && o)
set_option maxHeartbeats 1000000 in
theorem call_any (w : World) (p : Pv) {c : Nat} {o : Bool} (hc : w.cell? ⟨c, 0, none⟩ = some (.bool o)) : Calls Try.prog 106 #[p.val, .pointer (some ⟨c, 0, none⟩)] w fun e w' => e = .returned (.bool (p.call o)) ∧ Below w.heap.size w w' := by
  obtain ⟨u, b, k, s, wi, i, h, off, len, fin, on, held⟩ := p
  simp only [Pv.val, Pv.cells, Pv.call]
  generalize Value.slice on.a on.n on.c = on
  have HB := hid (below_grow (Below.refl w.heap.size w) (.cells #[.bool u, .bool b, .bool k, .int .u64 s, .int .i64 wi, .int .i64 i, .bool h, .int .u64 off, .int .i64 len, .bool fin, on, .bool held] 39))
  have hl := World.block_lt_of_cell? w _ hc
  have c1 := cell_kept HB.out hc
  cases u <;> cases b
  all_goals
    go_enter Try.func106, Try.ntmps106
    go_wp2
    go_ret
    exact ⟨by first | rfl | simp, HB.out⟩
/-- The paths of a list. -/
def PathsAt (w : World) (a : Option Addr) (L : List Pv) : Prop := ∀ k (h : k < L.length), ∃ g o, a = some ⟨g, o, none⟩ ∧ ∀ j v, L[k].cells[j]? = some v → w.cell? ⟨g, o + k * 12 + j, none⟩ = some v
theorem PathsAt.kept {w w' : World} {a : Option Addr} {L : List Pv} (h : PathsAt w a L) (hb : Below w.heap.size w w') : PathsAt w' a L := fun i hi => by
  obtain ⟨g, o, e, h1⟩ := h i hi
  exact ⟨g, o, e, fun j v hv => cell_kept hb (h1 j v hv)⟩
theorem PathsAt.cell {w : World} {a : Option Addr} {L : List Pv} (h : PathsAt w a L) {k : Nat} (hk : k < L.length) : ∃ g o, a = some ⟨g, o, none⟩ ∧ w.cell? ⟨g, o + k * 12, none⟩ = some (.bool L[k].u) ∧ w.cell? ⟨g, o + k * 12 + 1, none⟩ = some (.bool L[k].b) ∧ w.cell? ⟨g, o + k * 12 + 2, none⟩ = some (.bool L[k].k) ∧ w.cell? ⟨g, o + k * 12 + 3, none⟩ = some (.int .u64 L[k].s) ∧ w.cell? ⟨g, o + k * 12 + 4, none⟩ = some (.int .i64 L[k].w) ∧ w.cell? ⟨g, o + k * 12 + 5, none⟩ = some (.int .i64 L[k].i)
    ∧ w.cell? ⟨g, o + k * 12 + 6, none⟩ = some (.bool L[k].h) ∧ w.cell? ⟨g, o + k * 12 + 7, none⟩ = some (.int .u64 L[k].c.off) ∧ w.cell? ⟨g, o + k * 12 + 8, none⟩ = some (.int .i64 L[k].c.len) ∧ w.cell? ⟨g, o + k * 12 + 9, none⟩ = some (.bool L[k].c.fin) ∧ w.cell? ⟨g, o + k * 12 + 10, none⟩ = some (.slice L[k].c.on.a L[k].c.on.n L[k].c.on.c) ∧ w.cell? ⟨g, o + k * 12 + 11, none⟩ = some (.bool L[k].c.held) := by
  obtain ⟨g, o, e, h1⟩ := h k hk
  exact ⟨g, o, e, h1 0 _ rfl, h1 1 _ rfl, h1 2 _ rfl, h1 3 _ rfl, h1 4 _ rfl, h1 5 _ rfl, h1 6 _ rfl, h1 7 _ rfl, h1 8 _ rfl, h1 9 _ rfl, h1 10 _ rfl, h1 11 _ rfl⟩
/-- A function that tests a path, over whatever memory has come since. -/
def IsT (w : World) (f : Nat) (cs : List Value) (T : Pv → Bool) : Prop := ∀ (w' : World) (p : Pv), Below w.heap.size w w' → Calls Try.prog f (p.val :: cs).toArray w' fun e w'' => e = .returned (.bool (T p)) ∧ Below w'.heap.size w' w''
theorem IsT.kept {w w' : World} {f : Nat} {cs : List Value} {T : Pv → Bool} (h : IsT w f cs T) (hb : Below w.heap.size w w') : IsT w' f cs T := fun w2 p h2 => h w2 p (hb.trans (h2.mono hb.size))
def IdxAns (w : World) (b : Bool) (e : Ending) (w' : World) : Prop := Below w.heap.size w w' ∧ ∃ r : Int, e = .returned (.int .i64 r) ∧ -1 ≤ r ∧ decide (0 ≤ r) = b
set_option maxHeartbeats 4000000 in
theorem index_one {w : World} {a : Option Addr} {L : List Pv} (hA : PathsAt w a L) (n cap : Nat) (hn : L.length = n) (hsz : n ≤ 140737488355328) {f : Nat} {c0 : Value} {T : Pv → Bool} (hT : IsT w f [c0] T)
    (eg : ∀ args w, (callFunc f args).run Try.prog w = .ok (.enter f args) w) :
    Calls Try.prog 107 #[.slice a n cap, .func (.func f) #[] #[c0]] w fun e w' => IdxAns w (L.any T) e w' := by
  have HA := hid hA
  have HN := hid hn
  have HT := hid hT
  have hsi : (n : Int) ≤ 140737488355328 := by omega
  clear hA hn hT
  go_enter Try.func107, Try.ntmps107
  go_wp2
  go_loopw [5, 8] (fun _ s8 wr => ∃ i : Nat, i ≤ n ∧ s8 = .int .i64 i ∧ Hid (Below w.heap.size w wr) ∧ Hid (∀ t (ht : t < L.length), t < i → T L[t] = false)) (fun _ s _ => n - (intOf s).toNat)
  case atStart => exact ⟨0, Nat.zero_le _, rfl, hid (Below.refl _ _), hid (fun t _ ht => absurd ht (Nat.not_lt_zero _))⟩
  case round =>
    obtain ⟨i, hi, rfl, HB, HI⟩ := hrel
    by_cases hlt : i < n
    · have hil : i < L.length := by have := HN.out; omega
      obtain ⟨g, o, rfl, q0, q1, q2, q3, q4, q5, q6, q7, q8, q9, q10, q11⟩ := (HA.out.kept HB.out).cell hil
      have hii : (i : Int) < n := by omega
      have hC := HT.out wr L[i] HB.out
      simp only [Pv.val, Pv.cells] at hC
      have HC := hid hC
      have HB1 : Hid (∀ w', Below wr.heap.size wr w' → Below w.heap.size w w') := fun w' h => HB.out.trans (h.mono HB.out.size)
      clear hC
      cases hx : T L[i] with
      | false =>
        rw [hx] at HC
        have HI2 : Hid (∀ t (ht : t < L.length), t < i + 1 → T L[t] = false) := fun t ht h => by
          by_cases e : t = i
          · subst e; exact hx
          · exact HI.out t ht (by omega)
        clear hx HI
        go_wp2_with (go_at_fn f; refine HC.out.mono ?_; rintro e w' ⟨rfl, hb⟩; have HB2 := hid (HB1.out _ hb); clear hb)
        go_roundw
        case rel => exact ⟨i + 1, hlt, by go_num, HB2, HI2⟩
        case measure => simp [intOf]; omega
      | true =>
        rw [hx] at HC
        have HX : Hid (L.any T = true) := List.any_eq_true.2 ⟨_, List.getElem_mem hil, hx⟩
        clear hx HI
        go_wp2_with (go_at_fn f; refine HC.out.mono ?_; rintro e w' ⟨rfl, hb⟩; have HB2 := hid (HB1.out _ hb); clear hb)
        go_ret
        exact ⟨HB2.out, i, rfl, by omega, by rw [HX.out]; simp⟩
    · have HX : Hid (L.any T = false) := by
        show _ = _
        rw [List.any_eq_false]
        intro x hx
        obtain ⟨t, ht, rfl⟩ := List.getElem_of_mem hx
        have h1 := HI.out t ht (by have := HN.out; omega)
        rw [h1]; decide
      obtain rfl : i = n := by omega
      clear hlt
      go_wp2
      go_ret
      exact ⟨HB.out, -1, rfl, by omega, by rw [HX.out]; rfl⟩
set_option maxHeartbeats 4000000 in
theorem index_none {w : World} {a : Option Addr} {L : List Pv} (hA : PathsAt w a L) (n cap : Nat) (hn : L.length = n) (hsz : n ≤ 140737488355328) {f : Nat} {T : Pv → Bool} (hT : IsT w f [] T)
    (eg : ∀ args w, (callFunc f args).run Try.prog w = .ok (.enter f args) w) :
    Calls Try.prog 107 #[.slice a n cap, .func (.func f) #[] #[]] w fun e w' => IdxAns w (L.any T) e w' := by
  have HA := hid hA
  have HN := hid hn
  have HT := hid hT
  have hsi : (n : Int) ≤ 140737488355328 := by omega
  clear hA hn hT
  go_enter Try.func107, Try.ntmps107
  go_wp2
  go_loopw [5, 8] (fun _ s8 wr => ∃ i : Nat, i ≤ n ∧ s8 = .int .i64 i ∧ Hid (Below w.heap.size w wr) ∧ Hid (∀ t (ht : t < L.length), t < i → T L[t] = false)) (fun _ s _ => n - (intOf s).toNat)
  case atStart => exact ⟨0, Nat.zero_le _, rfl, hid (Below.refl _ _), hid (fun t _ ht => absurd ht (Nat.not_lt_zero _))⟩
  case round =>
    obtain ⟨i, hi, rfl, HB, HI⟩ := hrel
    by_cases hlt : i < n
    · have hil : i < L.length := by have := HN.out; omega
      obtain ⟨g, o, rfl, q0, q1, q2, q3, q4, q5, q6, q7, q8, q9, q10, q11⟩ := (HA.out.kept HB.out).cell hil
      have hii : (i : Int) < n := by omega
      have hC := HT.out wr L[i] HB.out
      simp only [Pv.val, Pv.cells] at hC
      have HC := hid hC
      have HB1 : Hid (∀ w', Below wr.heap.size wr w' → Below w.heap.size w w') := fun w' h => HB.out.trans (h.mono HB.out.size)
      clear hC
      cases hx : T L[i] with
      | false =>
        rw [hx] at HC
        have HI2 : Hid (∀ t (ht : t < L.length), t < i + 1 → T L[t] = false) := fun t ht h => by
          by_cases e : t = i
          · subst e; exact hx
          · exact HI.out t ht (by omega)
        clear hx HI
        go_wp2_with (go_at_fn f; refine HC.out.mono ?_; rintro e w' ⟨rfl, hb⟩; have HB2 := hid (HB1.out _ hb); clear hb)
        go_roundw
        case rel => exact ⟨i + 1, hlt, by go_num, HB2, HI2⟩
        case measure => simp [intOf]; omega
      | true =>
        rw [hx] at HC
        have HX : Hid (L.any T = true) := List.any_eq_true.2 ⟨_, List.getElem_mem hil, hx⟩
        clear hx HI
        go_wp2_with (go_at_fn f; refine HC.out.mono ?_; rintro e w' ⟨rfl, hb⟩; have HB2 := hid (HB1.out _ hb); clear hb)
        go_ret
        exact ⟨HB2.out, i, rfl, by omega, by rw [HX.out]; simp⟩
    · have HX : Hid (L.any T = false) := by
        show _ = _
        rw [List.any_eq_false]
        intro x hx
        obtain ⟨t, ht, rfl⟩ := List.getElem_of_mem hx
        have h1 := HI.out t ht (by have := HN.out; omega)
        rw [h1]; decide
      obtain rfl : i = n := by omega
      clear hlt
      go_wp2
      go_ret
      exact ⟨HB.out, -1, rfl, by omega, by rw [HX.out]; rfl⟩
theorem contains_one {w : World} {a : Option Addr} {L : List Pv} (hA : PathsAt w a L) (n cap : Nat) (hn : L.length = n) (hsz : n ≤ 140737488355328) {f : Nat} {c0 : Value} {T : Pv → Bool} (hT : IsT w f [c0] T)
    (eg : ∀ args w, (callFunc f args).run Try.prog w = .ok (.enter f args) w) :
    Calls Try.prog 104 #[.slice a n cap, .func (.func f) #[] #[c0]] w fun e w' => e = .returned (.bool (L.any T)) ∧ Below w.heap.size w w' := by
  have HI := hid (index_one hA n cap hn hsz hT eg)
  clear hA hT hn
  go_enter Try.func104, Try.ntmps104
  go_wp2_with (go_at_call 107; refine HI.out.mono ?_; rintro e w' ⟨hb, r, rfl, hr, hd⟩; have HB := hid hb; have HD := hid hd; clear hb hd)
  go_ret
  exact ⟨by rw [← HD.out]; rfl, HB.out⟩
theorem contains_none {w : World} {a : Option Addr} {L : List Pv} (hA : PathsAt w a L) (n cap : Nat) (hn : L.length = n) (hsz : n ≤ 140737488355328) {f : Nat} {T : Pv → Bool} (hT : IsT w f [] T)
    (eg : ∀ args w, (callFunc f args).run Try.prog w = .ok (.enter f args) w) :
    Calls Try.prog 104 #[.slice a n cap, .func (.func f) #[] #[]] w fun e w' => e = .returned (.bool (L.any T)) ∧ Below w.heap.size w w' := by
  have HI := hid (index_none hA n cap hn hsz hT eg)
  clear hA hT hn
  go_enter Try.func104, Try.ntmps104
  go_wp2_with (go_at_call 107; refine HI.out.mono ?_; rintro e w' ⟨hb, r, rfl, hr, hd⟩; have HB := hid hb; have HD := hid hd; clear hb hd)
  go_ret
  exact ⟨by rw [← HD.out]; rfl, HB.out⟩
theorem eg54 : ∀ args w, (callFunc 105 args).run Try.prog w = .ok (.enter 105 args) w := enters_of Try.func105 (by kernel_rfl) rfl
theorem eg55 : ∀ args w, (callFunc 106 args).run Try.prog w = .ok (.enter 106 args) w := enters_of Try.func106 (by kernel_rfl) rfl
theorem eg51 : ∀ args w, (callFunc 103 args).run Try.prog w = .ok (.enter 103 args) w := enters_of Try.func103 (by kernel_rfl) rfl
theorem eg49 : ∀ args w, (callFunc 101 args).run Try.prog w = .ok (.enter 101 args) w := enters_of Try.func101 (by kernel_rfl) rfl
/-- Is one usable that is no backup? -/
def oth (L : List Pv) : Bool := L.any Pv.plain
def OnAns (w : World) (L : List Pv) (e : Ending) (w' : World) : Prop := Below w.heap.size w w' ∧ ∃ c : Nat, e = .returned (.func (.func 106) #[] #[.pointer (some ⟨c, 0, none⟩)]) ∧ w'.cell? ⟨c, 0, none⟩ = some (.bool (oth L))
theorem oncall_any {w : World} {a : Option Addr} {L : List Pv} (hA : PathsAt w a L) (n cap : Nat) (hn : L.length = n) (hsz : n ≤ 140737488355328) : Calls Try.prog 102 #[.slice a n cap] w fun e w' => OnAns w L e w' := by
  have HI := hid (contains_none hA n cap hn hsz (f := 105) (T := Pv.plain) (fun w' p _ => plain_any w' p) eg54)
  clear hA hn
  go_enter Try.func102, Try.ntmps102
  go_wp2_with (go_at_call 104; refine HI.out.mono ?_; rintro e w' ⟨rfl, hb⟩; have HB := hid hb; clear hb)
  go_ret
  refine ⟨?_, _, rfl, ?_⟩
  · exact HB.out.alloc HB.out.size _
  · simp [oth, go_sem]
end Go.Proofs.Ytdbdiebgjnofgab
