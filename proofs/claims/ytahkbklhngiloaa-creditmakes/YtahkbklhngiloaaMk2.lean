import Derived.Test.YtahkbklhngiloaaMk1
namespace Go.Proofs.Ytahkbklhngiloaa
open Go.RowKit Go.Maps
set_option maxRecDepth 100000

theorem below_grown {w w' : World} (h : Below w.heap.size w w') : w.grownBy w' none := ⟨h.os, h.tape, h.output, h.size, fun k hk _ => h.block k hk⟩
theorem grown_below {w w' : World} (h : w.grownBy w' none) : Below w.heap.size w w' := ⟨h.os, h.tape, h.output, h.size, fun k hk => h.block k hk (by simp)⟩
theorem readP_inv {v : Value} {y : DM × List MemPlace} (h : readP v = some y) : ∃ x : Option Nat, v = ptrV x ∧ y = (match x with | none => .nil | some g => .held g, []) := by
  unfold readP at h
  split at h
  · cases h; exact ⟨none, rfl, rfl⟩
  · cases h; exact ⟨some _, rfl, rfl⟩
  · cases h
/-- What 'range' over the map gives. -/
theorem next_lines {w : World} {ops : Array Oper} {rest : List Oper} {o : Oper} {a : Act} {Q : Exit → Act → World → Prop} (hg : o.guard = none) (it : Operand) (hop : o.op = Op.next it false) (b r : Nat) (U : List Ln) (left : Lit → Bool) (cnt : Nat)
    (hit : a.eval it = .pointer (some ⟨r, 0, none⟩)) (h : w.ranges Try.prog 22 readP b r U.length (UD U) left cnt)
    (hDone : (∀ kl, left kl = false) → wpList Try.prog ops Q rest (a.put o.dst (.tuple #[.bool false])) w)
    (hMore : ∀ (c : Ln) (w' : World) (cnt' : Nat), c ∈ U → left (kw c.num) = true → w'.ranges Try.prog 22 readP b r U.length (UD U) (fun z => left z && !z.sameKey (kw c.num)) cnt' → cnt' < cnt → w.grownBy w' (some r) → w'.heap.size = w.heap.size →
      (Instr.entry (.pointer (some ⟨r, 0, none⟩))).run Try.prog w' = .ok (.tuple #[.int .u64 c.num, pt c.g 0]) w' → wpList Try.prog ops Q rest (a.put o.dst (.tuple #[.bool true, .int .u64 c.num, pt c.g 0])) w') :
    wpList Try.prog ops Q (o :: rest) a w :=
  wpList_next_ranges w hg it hop 22 law22 readP (fun n : Int => .int .u64 n) ptrV (fun key kl hk => by obtain ⟨x, rfl, _⟩ := keyOf_int_inv Try.underlying22 hk; exact ⟨x, rfl⟩) (fun v y hv => by obtain ⟨x, rfl, _⟩ := readP_inv hv; exact ⟨x, rfl⟩)
    b r U.length (UD U) left cnt hit h (fun _ hl => hDone hl) (fun x c kl y w' cnt' hkey hlk hv hat hrg hlt hgr hsz hen => by
      obtain ⟨x', ex, rfl, _⟩ := keyOf_int_inv Try.underlying22 hkey
      cases ex
      have hat1 := hat .nil
      have hU1 := UD_at U x
      rw [hat1] at hU1
      cases hf : fnd U x with
      | none =>
        exfalso
        have hat2 := hat (.held 0)
        have : Maps.has (UD U) (kw x) = true := Maps.has_true_of_atKey hat
        rw [UD_has, List.any_eq_true] at this
        obtain ⟨z, hz, e⟩ := this
        exact fnd_none hf z hz (by simpa using e)
      | some z =>
        rw [hf] at hU1
        obtain ⟨hz, rfl⟩ := fnd_some hf
        have hc : c = some z.g := by
          cases c with
          | none =>
            simp only [ptrV, readP] at hv
            cases hv
            cases hU1
          | some g =>
            simp only [ptrV, readP] at hv
            cases hv
            injection hU1 with e
            rw [e]
        subst hc
        exact hMore z w' cnt' hz hlk hrg hlt hgr hsz hen)
theorem make0 (w : World) : (Instr.makeSlice 33 (.int .i64 0) (.int .i64 0)).run Try.prog w = .ok (.slice (some ⟨w.heap.size, 0, none⟩) 0 0) (w.alloc (.cells #[] 22)) := by kernel_rfl
set_option maxHeartbeats 2000000 in
/-- A look at a book with nothing in it. -/
theorem view0 {w : World} {p b : Nat} {B : Bk} (h : BkAt w p b B) (hU : B.U = []) : Calls Try.prog 22 #[pt p 0] w fun e w' => ∃ g, e = .returned (.slice (some ⟨g, 0, none⟩) 1 1) ∧ w.heap.size ≤ g ∧ Row w' g (B.all.vcells 0 false) 61 ∧ Below w.heap.size w w' := by
  have hG := given_yes h
  have hm : OwnU w b [] := by have := h.map; rw [hU] at this; exact this
  have c16 := h.row.cell 16 _ rfl
  have hmk := make0
  have hb := bsl61
  have hms : Maps.size (UD []) = 0 := rfl
  have HH := hid2 h
  have HM := hid2 hm
  clear h hm hU
  go_enter Try.func22, Try.ntmps22
  go_upto_region 4 with (first | (go_at_call 31; refine hG.mono ?_; rintro e w' ⟨rfl, rfl⟩) | (at_len; refine wpList_len_own _ rfl _ 44 rfl 22 81 Try.underlying44 readP b 0 (UD []) rfl HM.out ?_))
  refine wp_world ?_
  intro w1 hw1
  have hb1 : Below w'.heap.size w' w1 := by rw [hw1.out]; exact below_box w' _
  have hs1 : Hid (w'.heap.size ≤ w1.heap.size) := hb1.size
  have d16 := cell_kept hb1 c16
  have HM1 : Hid (OwnU w1 b []) := World.ownsMap.kept HM.out (below_grown hb1) (by simp)
  have HB1 := hid2 hb1
  clear hb1 hw1 c16
  go_wp2_with (at_range; refine wpList_range_own _ rfl _ 44 rfl 22 81 law22 Try.underlying44 readP b 0 (UD []) rfl HM1.out ?_; intro w0 hrg0 hg0 hs0)
  have HB0 := hid2 (HB1.out.trans ((grown_below hg0).mono hs1.out))
  have HR0 := hid2 hrg0
  clear hrg0 hg0 hs0
  refine wp_loop_rounds 1 ?_
  rw [rounds_succ]
  go_wp2_with (at_next; refine next_lines rfl _ rfl b w1.heap.size [] _ _ rfl HR0.out ?_ (fun c _ _ hc => absurd hc List.not_mem_nil))
  intro hl
  have hA : ∀ W, BkAt W p b B → Calls Try.prog 47 #[pt p 11, .int .u64 0] W fun e w' => e = .returned (.agg #[.int .u64 0, .int .u64 B.all.sent, .int .u64 B.all.may, .int .u64 B.all.came, .int .u64 B.all.used, .int .u64 B.all.told, .bool false]) ∧ Below W.heap.size W w' := fun W hW => aview_any hW.acc 0
  have hS := sort0
  go_upto_region 10 with (first | (go_at_call 46; refine (hS _ _ _).mono ?_; rintro e w5 ⟨rfl, rfl⟩) | (go_at_call 47; refine (hA _ (HH.out.below HB0.out)).mono ?_; rintro e w6 ⟨rfl, hb6⟩; have HB6 := hid2 hb6; clear hb6))
  refine wp_world ?_
  intro w7 hw7
  have hR7 : Hid (Row w7 w6.heap.size (B.all.vcells 0 false) 61) := by show Row _ _ _ _; rw [hw7.out]; exact Row.new w6 (B.all.vcells 0 false) 61
  have HB7 : Hid (Below w'.heap.size w' w7) := by
    show Below _ _ _
    have h1 := HB0.out.trans (HB6.out.mono HB0.out.size)
    rw [hw7.out]
    exact h1.trans ((below_box w6 _).mono h1.size)
  have HZ7 := hid2 (Nat.le_trans HB0.out.size HB6.out.size)
  clear hw7
  go_wp2
  refine wp_loop_rounds 1 ?_
  rw [rounds_succ]
  go_wp2
  go_ret
  exact ⟨_, rfl, HZ7.out, hR7.out, HB7.out⟩
set_option maxHeartbeats 2000000 in
/-- Two looks of one row each that say the same. -/
theorem sv_one {w : World} {ga gb : Nat} {A : Ac} {i : Int} {d : Bool} (Ra : Row w ga (A.vcells i d) 61) (Rb : Row w gb (A.vcells i d) 61) : Calls Try.prog 25 #[.slice (some ⟨ga, 0, none⟩) 1 1, .slice (some ⟨gb, 0, none⟩) 1 1] w fun e w' => e = .returned (.bool true) ∧ Fr (fun k => k = ga) w w' := by
  have a0 := Ra.cell 0 _ rfl
  have a1 := Ra.cell 1 _ rfl
  have a2 := Ra.cell 2 _ rfl
  have a3 := Ra.cell 3 _ rfl
  have a4 := Ra.cell 4 _ rfl
  have a5 := Ra.cell 5 _ rfl
  have a6 := Ra.cell 6 _ rfl
  have b0 := Rb.cell 0 _ rfl
  have b1 := Rb.cell 1 _ rfl
  have b2 := Rb.cell 2 _ rfl
  have b3 := Rb.cell 3 _ rfl
  have b4 := Rb.cell 4 _ rfl
  have b5 := Rb.cell 5 _ rfl
  have b6 := Rb.cell 6 _ rfl
  have f3 := Ra.frozen 3
  clear Ra Rb
  go_enter Try.func25, Try.ntmps25
  go_wp2
  refine wp_loop_rounds 2 ?_
  rw [rounds_succ]
  go_upto_region 6 with fail
  go_region
  go_wp2
  rw [rounds_succ]
  go_wp2
  refine wp_loop_rounds 2 ?_
  rw [rounds_succ]
  go_wp2
  rw [rounds_succ]
  go_wp2
  go_ret
  exact ⟨by first | rfl | simp, ((Fr.refl _ _).drewN 1).setCell ga 3 _ (.inl rfl)⟩
theorem ne62 (w : World) (g : Nat) : (binOp BinOp.eql 62 (pt g 0) (.pointer none)).run Try.prog w = .ok (.bool false) w := by kernel_rfl
set_option maxHeartbeats 2000000 in
/-- New of any rooms. -/
theorem makes_any (w : World) (side : Int) (own peer : Rm) : Calls Try.prog 7 #[.int .i64 side, own.val, peer.val] w fun e w' => e = .returned (.bool true) ∧ Below w.heap.size w w' := by
  have hba := below_box w (.cells #[.int .u64 own.all, .int .u64 own.each, .int .i64 own.str] 24)
  have hbb := below_box (w.alloc (.cells #[.int .u64 own.all, .int .u64 own.each, .int .i64 own.str] 24)) (.cells #[.int .u64 peer.all, .int .u64 peer.each, .int .i64 peer.str] 24)
  have Ra := (Row.new w [.int .u64 own.all, .int .u64 own.each, .int .i64 own.str] 24).kept hbb (by simp)
  have Rb := Row.new (w.alloc (.cells #[.int .u64 own.all, .int .u64 own.each, .int .i64 own.str] 24)) [.int .u64 peer.all, .int .u64 peer.each, .int .i64 peer.str] 24
  have HB := hid2 (hba.trans (hbb.mono hba.size))
  have hsz : (w.alloc (.cells #[.int .u64 own.all, .int .u64 own.each, .int .i64 own.str] 24)).heap.size = w.heap.size + 1 := by simp
  rw [hsz] at Rb
  clear hba hbb hsz
  by_cases hOK : own.Ok ∧ peer.Ok
  · have h1 := fun w => new_yes w side hOK.1 hOK.2
    have h2 := fun w => rnew_yes w side hOK.1 hOK.2
    clear hOK
    unfold Rm.val at *
    go_enter Try.func7, Try.ntmps7
    go_upto_region 1 with fail
    refine wp_world ?_
    intro w2 hw2
    rw [← hw2.out] at Ra Rb HB
    have RA := hid2 Ra
    have RB := hid2 Rb
    have a0 := Ra.cell 0 _ rfl
    have a1 := Ra.cell 1 _ rfl
    have a2 := Ra.cell 2 _ rfl
    have b0 := Rb.cell 0 _ rfl
    have b1 := Rb.cell 1 _ rfl
    have b2 := Rb.cell 2 _ rfl
    clear Ra Rb hw2
    go_upto_region 2 with (go_at_call 10; refine (h1 _).mono ?_; rintro e w3 ⟨p, b, rfl, h3, hb3, hp3, hq3⟩; have HH3 := hid2 h3; have RA3 := RA.out.kept hb3 RA.out.lt; have RB3 := RB.out.kept hb3 RB.out.lt; have HB3 := hid2 (HB.out.trans (hb3.mono HB.out.size)); have HBL := hid2 hb3.size; clear h3 hb3 hp3 hq3 a0 a1 a2 b0 b1 b2)
    have a0 := RA3.cell 0 _ rfl
    have a1 := RA3.cell 1 _ rfl
    have a2 := RA3.cell 2 _ rfl
    have b0 := RB3.cell 0 _ rfl
    have b1 := RB3.cell 1 _ rfl
    have b2 := RB3.cell 2 _ rfl
    clear RA3 RB3
    go_wp2_with (first
      | (go_at_call 24; refine (h2 _).mono ?_; rintro e w4 ⟨r, s, rfl, h4, hb4⟩; have HR4 := hid2 h4; have HH4 := hid2 (HH3.out.below hb4); have HB4 := hid2 (HB3.out.trans (hb4.mono HB3.out.size)); have HG4 := hid2 (Nat.le_trans HBL.out hb4.size); clear h4 hb4)
      | (go_at_call 22; refine (view0 HH4.out rfl).mono ?_; rintro e w5 ⟨g, rfl, hg5, h5, hb5⟩; have HV5 := hid2 h5; have HR5 := hid2 (HR4.out.kept hb5 HR4.out.lt); have HB5 := hid2 (HB4.out.trans (hb5.mono HB4.out.size)); have HG5 := hid2 hg5; clear h5 hb5 hg5)
      | (go_at_call 26; refine (rview0 HR5.out).mono ?_; rintro e w6 ⟨g2, rfl, hg6, h6, hb6⟩; have HV6 := hid2 (HV5.out.kept hb6 HV5.out.lt); have HW6 := hid2 h6; have HB6 := hid2 (HB5.out.trans (hb6.mono HB5.out.size)); clear h6 hb6 hg6)
      | (go_at_call 25; refine (sv_one HV6.out HW6.out).mono ?_; rintro e w7 ⟨rfl, hf7⟩; have HF7 := hid2 hf7; clear hf7)
      | (go_at_call 14; refine (alive_any _).mono ?_; rintro e w8 ⟨rfl, hb8⟩; have HB8 := hid2 hb8; clear hb8))
    go_ret
    refine ⟨by first | rfl | simp, ?_⟩
    have z1 := HG5.out
    have z2 := HB4.out.size
    have b7 : Below w.heap.size w w7 := HB6.out.trans (HF7.out.below (fun k hk => by omega) HB6.out.size)
    exact b7.trans (HB8.out.mono b7.size)
  · have hno : own.may = false ∨ peer.may = false := by
      by_cases ho : own.may = true
      · right
        by_cases hp : peer.may = true
        · exact absurd ⟨Rm.may_ok.1 ho, Rm.may_ok.1 hp⟩ hOK
        · simpa using hp
      · left; simpa using ho
    have h1 := fun w => new_no w side hno
    have h2 := fun w => rnew_no w side hno
    clear hOK hno
    unfold Rm.val at *
    go_enter Try.func7, Try.ntmps7
    go_upto_region 1 with fail
    refine wp_world ?_
    intro w2 hw2
    rw [← hw2.out] at Ra Rb HB
    have RA := hid2 Ra
    have RB := hid2 Rb
    have a0 := Ra.cell 0 _ rfl
    have a1 := Ra.cell 1 _ rfl
    have a2 := Ra.cell 2 _ rfl
    have b0 := Rb.cell 0 _ rfl
    have b1 := Rb.cell 1 _ rfl
    have b2 := Rb.cell 2 _ rfl
    clear Ra Rb hw2
    go_upto_region 2 with (go_at_call 10; refine (h1 _).mono ?_; rintro e w3 ⟨rfl, hb3⟩; have RA3 := RA.out.kept hb3 RA.out.lt; have RB3 := RB.out.kept hb3 RB.out.lt; have HB3 := hid2 (HB.out.trans (hb3.mono HB.out.size)); clear hb3 a0 a1 a2 b0 b1 b2)
    have a0 := RA3.cell 0 _ rfl
    have a1 := RA3.cell 1 _ rfl
    have a2 := RA3.cell 2 _ rfl
    have b0 := RB3.cell 0 _ rfl
    have b1 := RB3.cell 1 _ rfl
    have b2 := RB3.cell 2 _ rfl
    clear RA3 RB3
    go_wp2_with (first
      | (go_at_call 24; refine (h2 _).mono ?_; rintro e w4 ⟨rfl, hb4⟩; have HB4 := hid2 (HB3.out.trans (hb4.mono HB3.out.size)); clear hb4)
      | (go_at_call 14; refine (alive_any _).mono ?_; rintro e w8 ⟨rfl, hb8⟩; have HB8 := hid2 hb8; clear hb8))
    go_ret
    exact ⟨by first | rfl | simp, HB4.out.trans (HB8.out.mono HB4.out.size)⟩
end Go.Proofs.Ytahkbklhngiloaa
