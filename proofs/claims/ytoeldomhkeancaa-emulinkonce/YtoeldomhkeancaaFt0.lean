import Derived.Test.YtoeldomhkeancaaTa0
namespace Go.Proofs.Ytoeldomhkeancaa
open Go.RowKit Go.Maps
set_option maxRecDepth 100000

/-- What lies behind a slice's header. -/
def ElAt (w : World) (a : Option Addr) (xs : List Value) : Prop := ∀ (k : Nat) x, xs[k]? = some x → ∃ g o, a = some ⟨g, o, none⟩ ∧ w.cell? ⟨g, o + k, none⟩ = some x
theorem ElAt.kept {w w' : World} {a : Option Addr} {xs : List Value} (h : ElAt w a xs) (hb : Below w.heap.size w w') : ElAt w' a xs := fun k x hx => by
  obtain ⟨g, o, e, hc⟩ := h k x hx
  exact ⟨g, o, e, cell_kept hb hc⟩
/-- May a frame not be so much later? -/
def badJ (j : Int) : Bool := decide (j < 0 ∨ 1099511627776 < j)
theorem late_any (w : World) (j : Int) : Calls Try.prog 40 #[.int .i64 j] w fun e w' => e = .returned (.bool (badJ j)) ∧ w' = w := by
  unfold badJ
  by_cases h : j < 0
  · rw [decide_eq_true (.inl h)]
    go_enter Try.func40, Try.ntmps40
    go_wp2
    go_ret
    exact ⟨rfl, rfl⟩
  · by_cases h2 : 1099511627776 < j
    · rw [decide_eq_true (.inr h2)]
      go_enter Try.func40, Try.ntmps40
      go_wp2
      go_ret
      exact ⟨rfl, rfl⟩
    · rw [decide_eq_false (by omega)]
      go_enter Try.func40, Try.ntmps40
      go_wp2
      go_ret
      exact ⟨rfl, rfl⟩
set_option maxHeartbeats 1000000 in
theorem index_any {w : World} {a : Option Addr} {l : List Int} {cap : Nat} (hB : ElAt w a (l.map (Value.int .i64))) (hl : l.length ≤ 65536) :
    Calls Try.prog 47 #[.slice a l.length cap, .func (.func 40) #[] #[]] w fun e w' => (∃ k : Int, e = .returned (.int .i64 k) ∧ decide (0 ≤ k) = l.any badJ) ∧ w' = w := by
  have HB := hid hB
  have hli : (l.length : Int) ≤ 65536 := by omega
  clear hB hl
  have hcf : ∀ (args : Array Value) (w : World), (callFunc 40 args).run Try.prog w = .ok (.enter 40 args) w := fun _ _ => rfl
  go_enter Try.func47, Try.ntmps47
  go_wp2
  go_loopw [8] (fun i wr => ∃ k : Nat, k ≤ l.length ∧ i = .int .i64 k ∧ Hid ((l.take k).any badJ = false) ∧ wr = w) (fun i _ => l.length - (intOf i).toNat)
  case atStart => exact ⟨0, Nat.zero_le _, rfl, rfl, rfl⟩
  case round =>
    obtain ⟨k, hk, rfl, HA, rfl⟩ := hrel
    by_cases hlt : k < l.length
    · obtain ⟨g, o, rfl, c1⟩ := HB.out k (.int .i64 l[k]) (by simp [hlt])
      have HS := hid (show (l.take (k + 1)).any badJ = ((l.take k).any badJ || badJ l[k]) by rw [List.take_succ_eq_append_getElem hlt, List.any_append]; simp)
      have HM := hid (List.getElem_mem hlt)
      have HZ : Hid (∀ w, Calls Try.prog 40 #[.int .i64 l[k]] w fun e w' => e = .returned (.bool (badJ l[k])) ∧ w' = w) := fun w => late_any w _
      generalize l[k] = x at *
      cases hx : badJ x with
      | false =>
        rw [hx] at HZ
        have HX := hid hx
        clear hx
        go_wp2_with (go_at_call 40; refine (HZ.out _).mono ?_; rintro e w2 ⟨rfl, rfl⟩)
        go_roundw
        case rel => exact ⟨k + 1, hlt, by go_num, by show _ = _; rw [HS.out, HA.out, HX.out]; rfl, trivial⟩
        case measure => simp [intOf]; omega
      | true =>
        rw [hx] at HZ
        have HX := hid hx
        clear hx
        go_wp2_with (go_at_call 40; refine (HZ.out _).mono ?_; rintro e w2 ⟨rfl, rfl⟩)
        go_ret
        refine ⟨⟨(k : Int), rfl, ?_⟩, rfl⟩
        rw [decide_eq_true (by omega)]
        exact (List.any_eq_true.2 ⟨x, HM.out, HX.out⟩).symm
    · obtain rfl : k = l.length := by omega
      have HA2 := hid HA.out
      rw [List.take_length] at HA2
      go_wp2
      go_ret
      exact ⟨⟨-1, rfl, by rw [HA2.out]; rfl⟩, rfl⟩
theorem contains_any {w : World} {a : Option Addr} {l : List Int} {cap : Nat} (hB : ElAt w a (l.map (Value.int .i64))) (hl : l.length ≤ 65536) :
    Calls Try.prog 39 #[.slice a l.length cap, .func (.func 40) #[] #[]] w fun e w' => e = .returned (.bool (l.any badJ)) ∧ w' = w := by
  have HI := hid (index_any (cap := cap) hB hl)
  clear hB hl
  go_enter Try.func39, Try.ntmps39
  go_wp2_with (go_at_call 47; refine HI.out.mono ?_; rintro e w1 ⟨⟨k, rfl, hk⟩, rfl⟩; have HK := hid hk; clear hk)
  go_ret
  exact ⟨by rw [← HK.out]; rfl, rfl⟩
/-- What is wrong with a configuration. -/
def fitE (r d q : Int) (ln : Nat) (jit : List Int) : Int :=
  if r < 0 ∨ 1099511627776 < r then 240 else if d < 0 ∨ 1099511627776 < d then 241 else if q < 1 ∨ 1073741824 < q then 242 else if 65536 < ln ∨ 65536 < jit.length ∨ jit.any badJ = true then 243 else 0
abbrev confC (r d q : Int) (lv jv : Value) : List Value := [.int .i64 r, .int .i64 d, .int .i64 q, lv, jv]
set_option maxHeartbeats 4000000 in
theorem fit_any {w : World} {r d q : Int} {la ja : Option Addr} {ln lc jc : Nat} {jit : List Int} (hj : ElAt w ja (jit.map (Value.int .i64))) (hjl : jit.length ≤ 140737488355328) (hll : ln ≤ 140737488355328) :
    Calls Try.prog 25 #[.agg (confC r d q (.slice la ln lc) (.slice ja jit.length jc)).toArray] w fun e w' => e = .returned (.int .i64 (fitE r d q ln jit)) ∧ Below w.heap.size w w' := by
  have hb1 := below_new w (.cells #[.int .i64 r, .int .i64 d, .int .i64 q, .slice la ln lc, .slice ja jit.length jc] 28)
  have R := Row.new w [.int .i64 r, .int .i64 d, .int .i64 q, .slice la ln lc, .slice ja jit.length jc] 28
  have hj1 := hj.kept hb1
  have HB := hid hb1
  have x0 := R.cell 0 _ rfl
  have x1 := R.cell 1 _ rfl
  have x2 := R.cell 2 _ rfl
  have x3 := R.cell 3 _ rfl
  have x4 := R.cell 4 _ rfl
  have HJ := hid hj1
  have hji : (jit.length : Int) ≤ 140737488355328 := by omega
  have hli : (ln : Int) ≤ 140737488355328 := by omega
  clear hj hj1 hb1 R
  simp only [confC]
  go_enter Try.func25, Try.ntmps25
  go_upto_region 1 with fail
  revert HB x0 x1 x2 x3 x4 HJ
  generalize w.alloc (.cells #[.int .i64 r, .int .i64 d, .int .i64 q, .slice la ln lc, .slice ja jit.length jc] 28) = w1
  intro HB x0 x1 x2 x3 x4 HJ
  obtain ⟨b, hb⟩ : ∃ b, w.heap.size = b := ⟨_, rfl⟩
  rw [hb] at x0 x1 x2 x3 x4 ⊢
  clear hb
  by_cases r0 : r < 0
  · have HF : Hid (fitE r d q ln jit = 240) := by show _ = _; unfold fitE; rw [if_pos (.inl r0)]
    go_wp2_with fail
    go_ret
    exact ⟨by rw [HF.out]; rfl, HB.out⟩
  by_cases r1 : 1099511627776 < r
  · have HF : Hid (fitE r d q ln jit = 240) := by show _ = _; unfold fitE; rw [if_pos (.inr r1)]
    go_wp2_with fail
    go_ret
    exact ⟨by rw [HF.out]; rfl, HB.out⟩
  by_cases d0 : d < 0
  · have HF : Hid (fitE r d q ln jit = 241) := by show _ = _; unfold fitE; rw [if_neg (by omega), if_pos (.inl d0)]
    go_wp2_with fail
    go_ret
    exact ⟨by rw [HF.out]; rfl, HB.out⟩
  by_cases d1 : 1099511627776 < d
  · have HF : Hid (fitE r d q ln jit = 241) := by show _ = _; unfold fitE; rw [if_neg (by omega), if_pos (.inr d1)]
    go_wp2_with fail
    go_ret
    exact ⟨by rw [HF.out]; rfl, HB.out⟩
  by_cases q0 : q < 1
  · have HF : Hid (fitE r d q ln jit = 242) := by show _ = _; unfold fitE; rw [if_neg (by omega), if_neg (by omega), if_pos (.inl q0)]
    go_wp2_with fail
    go_ret
    exact ⟨by rw [HF.out]; rfl, HB.out⟩
  by_cases q1 : 1073741824 < q
  · have HF : Hid (fitE r d q ln jit = 242) := by show _ = _; unfold fitE; rw [if_neg (by omega), if_neg (by omega), if_pos (.inr q1)]
    go_wp2_with fail
    go_ret
    exact ⟨by rw [HF.out]; rfl, HB.out⟩
  by_cases l1 : 65536 < ln ∨ 65536 < jit.length
  · have hm : 65536 < max (ln : Int) (jit.length : Int) := by omega
    have HF : Hid (fitE r d q ln jit = 243) := by show _ = _; unfold fitE; rw [if_neg (by omega), if_neg (by omega), if_neg (by omega), if_pos (l1.imp id .inl)]
    go_wp2_with fail
    go_ret
    exact ⟨by rw [HF.out]; rfl, HB.out⟩
  · have hm : ¬ 65536 < max (ln : Int) (jit.length : Int) := by omega
    have HC := hid (contains_any (cap := jc) HJ.out (by omega))
    cases hbad : jit.any badJ with
    | true =>
      have HF : Hid (fitE r d q ln jit = 243) := by show _ = _; unfold fitE; rw [if_neg (by omega), if_neg (by omega), if_neg (by omega), if_pos (.inr (.inr hbad))]
      rw [hbad] at HC
      go_wp2_with (go_at_call 39; refine HC.out.mono ?_; rintro e w1 ⟨rfl, rfl⟩)
      go_ret
      exact ⟨by rw [HF.out]; rfl, HB.out⟩
    | false =>
      have HF : Hid (fitE r d q ln jit = 0) := by
        show _ = _
        unfold fitE
        rw [if_neg (by omega), if_neg (by omega), if_neg (by omega), if_neg (by rw [hbad]; simp; omega)]
      rw [hbad] at HC
      go_wp2_with (go_at_call 39; refine HC.out.mono ?_; rintro e w1 ⟨rfl, rfl⟩)
      go_ret
      exact ⟨by rw [HF.out]; rfl, HB.out⟩
end Go.Proofs.Ytoeldomhkeancaa
