import Derived.Test.YtjeokomocopjhaaFa12
namespace Go.Proofs.Ytjeokomocopjhaa
open Go.RowKit Go.Maps
set_option maxRecDepth 100000

theorem readP_inv {v : Value} {y : DM × List MemPlace} (h : readP v = some y) : ∃ x : Option Nat, v = ptrV x ∧ y = (match x with | none => .nil | some g => .held g, []) := by
  unfold readP at h
  split at h
  · cases h; exact ⟨none, rfl, rfl⟩
  · cases h; exact ⟨some _, rfl, rfl⟩
  · cases h
/-- What 'range' over the map gives. -/
theorem next_lines {w : World} {ops : Array Oper} {rest : List Oper} {o : Oper} {a : Act} {Q : Exit → Act → World → Prop} (hg : o.guard = none) (it : Operand) (hop : o.op = Op.next it false) (b r : Nat) (U : List Ln) (left : Lit → Bool) (cnt : Nat)
    (hit : a.eval it = .pointer (some ⟨r, 0, none⟩)) (h : w.ranges Try.prog 26 readP b r U.length (UD U) left cnt)
    (hDone : (∀ kl, left kl = false) → wpList Try.prog ops Q rest (a.put o.dst (.tuple #[.bool false])) w)
    (hMore : ∀ (c : Ln) (w' : World) (cnt' : Nat), c ∈ U → left (kw c.num) = true → w'.ranges Try.prog 26 readP b r U.length (UD U) (fun z => left z && !z.sameKey (kw c.num)) cnt' → cnt' < cnt → w.grownBy w' (some r) → w'.heap.size = w.heap.size →
      (Instr.entry (.pointer (some ⟨r, 0, none⟩))).run Try.prog w' = .ok (.tuple #[.int .u64 c.num, pt c.g 0]) w' → wpList Try.prog ops Q rest (a.put o.dst (.tuple #[.bool true, .int .u64 c.num, pt c.g 0])) w') :
    wpList Try.prog ops Q (o :: rest) a w :=
  wpList_next_ranges w hg it hop 26 law26 readP (fun n : Int => .int .u64 n) ptrV (fun key kl hk => by obtain ⟨x, rfl, _⟩ := keyOf_int_inv Try.underlying26 hk; exact ⟨x, rfl⟩) (fun v y hv => by obtain ⟨x, rfl, _⟩ := readP_inv hv; exact ⟨x, rfl⟩)
    b r U.length (UD U) left cnt hit h (fun _ hl => hDone hl) (fun x c kl y w' cnt' hkey hlk hv hat hrg hlt hgr hsz hen => by
      obtain ⟨x', ex, rfl, _⟩ := keyOf_int_inv Try.underlying26 hkey
      cases ex
      have hat1 := hat .nil
      have hU1 := UD_at U x
      rw [hat1] at hU1
      cases hf : fnd U x with
      | none =>
        exfalso
        have hat2 := hat (.held 0)
        have : Maps.has (UD U) (kw x) = true := Maps.has_true_of_atKey hat
        rw [UD_has, List.any_eq_true] at this
        obtain ⟨z, hz, e⟩ := this
        exact fnd_none hf z hz (by simpa using e)
      | some z =>
        rw [hf] at hU1
        obtain ⟨hz, rfl⟩ := fnd_some hf
        have hc : c = some z.g := by
          cases c with
          | none =>
            simp only [ptrV, readP] at hv
            cases hv
            cases hU1
          | some g =>
            simp only [ptrV, readP] at hv
            cases hv
            injection hU1 with e
            rw [e]
        subst hc
        exact hMore z w' cnt' hz hlk hrg hlt hgr hsz hen)
/-- How many bytes wait of the streams that were met. -/
def waitL (left : Lit → Bool) : List Ln → Int
  | [] => 0
  | x :: r => (if left (kw x.num) then 0 else x.s.wt) + waitL left r
def Fs.waits (F : Fs) : Int := waitL (fun _ => false) F.U
theorem waitL_congr {f g : Lit → Bool} : ∀ {U : List Ln}, (∀ x ∈ U, f (kw x.num) = g (kw x.num)) → waitL f U = waitL g U
  | [], _ => rfl
  | x :: r, h => by
    unfold waitL
    rw [h x (by simp), waitL_congr (fun y hy => h y (by simp [hy]))]
theorem waitL_none : ∀ {U : List Ln} {f : Lit → Bool}, (∀ x ∈ U, f (kw x.num) = true) → waitL f U = 0
  | [], _, _ => rfl
  | x :: r, f, h => by
    unfold waitL
    rw [h x (by simp), if_pos rfl, waitL_none (fun y hy => h y (by simp [hy]))]
    rfl
theorem waitL_bd : ∀ {U : List Ln} {f : Lit → Bool}, (∀ x ∈ U, 0 ≤ x.s.wt ∧ x.s.wt ≤ 1099511627776) → 0 ≤ waitL f U ∧ waitL f U ≤ 1099511627776 * (U.length : Int)
  | [], _, _ => ⟨Int.le_refl _, Int.le_refl _⟩
  | x :: r, f, h => by
    unfold waitL
    have h1 := h x (by simp)
    have h2 := waitL_bd (U := r) (f := f) (fun y hy => h y (by simp [hy]))
    simp only [List.length_cons]
    split <;> omega
theorem waitL_step {U : List Ln} (hU : Rising U) {c : Ln} (hc : c ∈ U) {left : Lit → Bool} (hl : left (kw c.num) = true) : waitL (fun z => left z && !z.sameKey (kw c.num)) U = waitL left U + c.s.wt := by
  induction U with
  | nil => cases hc
  | cons a r ih =>
    obtain ⟨h1, h2⟩ := List.pairwise_cons.1 hU
    unfold waitL
    rcases List.mem_cons.1 hc with e | hc'
    · subst e
      rw [hl]
      have : waitL (fun z => left z && !z.sameKey (kw c.num)) r = waitL left r := waitL_congr (fun x hx => by
        have := h1 x hx
        simp only [kw_same]
        rw [decide_eq_false (by omega)]
        simp)
      rw [this]
      simp [kw_same]
      omega
    · rw [ih h2 hc']
      have := h1 c hc'
      simp only [kw_same]
      rw [decide_eq_false (show ¬ a.num = c.num by omega)]
      simp
      omega
theorem FaAt.notIter {w : World} {p b : Nat} {V : Nat → Value} {F : Fs} (h : FaAt w p b V F) {b' r m : Nat} {D : DM} {left : Lit → Bool} {cnt : Nat} (hr : w.ranges Try.prog 26 readP b' r m D left cnt) {k : Nat} (hk : Foot p b V F k) : k ≠ r := by
  obtain ⟨_, _, _, _, _, _, _, _, _, hr', _⟩ := hr
  intro e
  subst e
  rcases hk with rfl | rfl | ⟨x, hx, rfl⟩ | ⟨j, hj, e⟩
  · rw [h.row.at_] at hr'; cases hr'
  · obtain ⟨es, clock, hb, _⟩ := h.map
    rw [hb] at hr'; cases hr'
  · rw [(h.rows x hx).at_] at hr'; cases hr'
  · obtain ⟨cur, hg⟩ := own_blk (h.own j hj) e
    rw [hg] at hr'; cases hr'
set_option maxHeartbeats 2000000 in
theorem waiting_any {w : World} {p b : Nat} {V : Nat → Value} {F : Fs} (h : FaAt w p b V F) (k : F.Ok) : Calls Try.prog 13 #[pt p 0] w fun e w' => e = .returned (.int .i64 F.waits) ∧ Below w.heap.size w w' := by
  have c1 := h.row.cell 1 _ rfl
  have HH := hid2 h
  have HK := hid2 k
  clear h k
  go_enter Try.func13, Try.ntmps13
  go_wp2_with (at_range; refine wpList_range_own _ rfl _ 53 rfl 26 58 law26 Try.underlying53 readP b F.U.length (UD F.U) rfl HH.out.map ?_; intro w0 hrg0 hg0 hs0)
  have HR0 := hid2 hrg0
  have HB0 := hid2 (grown_below hg0)
  clear hrg0 hg0 hs0 c1
  go_frame
  go_loopw [3] (fun s3 wr => ∃ (left : Lit → Bool) (cnt : Nat), wr.ranges Try.prog 26 readP b w.heap.size F.U.length (UD F.U) left cnt ∧ s3 = .int .i64 (waitL left F.U) ∧ FaAt wr p b V F ∧ Below w.heap.size w wr) (fun _ wr => wr.rangeLeft b w.heap.size)
  case atStart =>
    refine ⟨_, _, HR0.out, ?_, HH.out.below HB0.out, HB0.out⟩
    rw [waitL_none (fun x hx => by rw [UD_has]; exact List.any_eq_true.2 ⟨x, hx, by simp⟩)]
  case round =>
    obtain ⟨left, cnt, hrg, rfl, hA, hB⟩ := hrel
    have HRG := hid2 hrg
    have HA := hid2 hA
    have HB := hid2 hB
    have hbd := waitL_bd (f := left) HK.out.wt
    have hln := HK.out.len
    have hb0 : 0 ≤ waitL left F.U := hbd.1
    have hb1 : waitL left F.U ≤ 1125899906842624 := by omega
    have HST : Hid (∀ c ∈ F.U, left (kw c.num) = true → waitL (fun z => left z && !z.sameKey (kw c.num)) F.U = waitL left F.U + c.s.wt) := fun c hc hl => waitL_step HK.out.rise hc hl
    have HEN : Hid ((∀ kl, left kl = false) → waitL left F.U = F.waits) := fun hl => waitL_congr (fun x _ => hl _)
    clear hrg hA hB HR0 HB0 hbd hln
    generalize waitL left F.U = S at *
    go_wp2_with (at_next; refine next_lines rfl _ rfl b w.heap.size F.U left cnt rfl HRG.out ?_ ?_)
    · intro hl
      go_wp2_with fail
      go_ret
      exact ⟨congrArg (fun z => Ending.returned (Value.int .i64 z)) (HEN.out hl), HB.out⟩
    · intro c w1 cnt1 hc hl hrg1 hlt hg1 hs1 hen
      have HC := hid2 hc
      have HS1 := hid2 (HST.out c hc hl)
      have HR1 := hid2 hrg1
      have HLT := hid2 hlt
      have HLE := hid2 (World.ranges.left_eq HRG.out)
      have f1 : Fr (fun k => k = w.heap.size) wr w1 := Fr.of_grown hg1 (fun k e => .inl (by simpa using e.symm))
      have HA1 := hid2 (HA.out.kept f1 (fun k hk e => HA.out.notIter HRG.out hk e))
      have HB1 := hid2 (HB.out.trans (f1.below (fun k e => by omega) HB.out.size))
      have x3 := (HA1.out.rows c hc).cell 3 _ rfl
      have hw0 : 0 ≤ c.s.wt := (HK.out.wt c hc).1
      have hw1 : c.s.wt ≤ 1099511627776 := (HK.out.wt c hc).2
      clear hrg1 hlt hg1 hl hs1 f1 HRG HA HB hc HST
      go_wp2_with fail
      go_roundw
      case rel => exact ⟨_, cnt1, HR1.out, by rw [HS1.out], HA1.out, HB1.out⟩
      case measure =>
        rw [World.ranges.left_eq HR1.out, HLE.out]
        exact HLT.out
theorem fa_waiting {s0 p : Nat} {w : World} {F : Fs} (h : Fa s0 w p F) : Calls Try.prog 13 #[pt p 0] w fun e w' => e = .returned (.int .i64 F.waits) ∧ Below w.heap.size w w' := by
  obtain ⟨k, hs, b, V, hA, hf⟩ := h
  exact waiting_any hA k
end Go.Proofs.Ytjeokomocopjhaa
