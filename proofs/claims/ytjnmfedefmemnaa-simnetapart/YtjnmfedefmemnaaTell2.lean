import Derived.Test.YtjnmfedefmemnaaTurn
namespace Go.Proofs.Ytjnmfedefmemnaa
open Go.RowKit Go.Maps
set_option maxRecDepth 100000

theorem own_kept {w w' : World} {b k : Nat} {D : DM} (h : OwnM w b k D) (hb : Below w.heap.size w w') : OwnM w' b k D := by
  obtain ⟨es, clock, h1, h2⟩ := h
  exact ⟨es, clock, (hb.block b (Array.getElem?_eq_some_iff.1 h1).1).trans h1, h2⟩
theorem grown_setCell (w : World) (a : Addr) (v : Value) : w.grownBy (w.setCell a v) (some a.block) :=
  ⟨rfl, rfl, rfl, by simp [World.setCell], fun k _ hk => Below.heap_setCell w a v k (fun e => hk (by rw [e]))⟩
theorem ranges_ne {w : World} {b it k cnt g : Nat} {D : DM} {left : Lit → Bool} {c : List Value} {t : TypeId} (h : w.ranges Try.prog 3 (plainElem Try.prog 5) b it k D left cnt) (r : Row w g c t) : g ≠ it ∧ g ≠ b := by
  obtain ⟨es, clock, since, seen, c0, h1, _, _, _, h2, _⟩ := h
  refine ⟨fun e => ?_, fun e => ?_⟩
  · subst e; rw [r.at_] at h2; cases h2
  · subst e; rw [r.at_] at h1; cases h1
theorem below_grownN {B : Nat} {w w' : World} (h : w.grownBy w' none) (hB : B ≤ w.heap.size) : Below B w w' := ⟨h.os, h.tape, h.output, h.size, fun k hk => h.block k (by omega) (by simp)⟩
set_option maxHeartbeats 2000000 in
theorem tell_map {w : World} {q B k gb n : Nat} {D : DM} {T : Nat → BitVec 8} {bs : List (BitVec 8)} (R1 : Row w q [.slice (some ⟨gb, 0, none⟩) n n, .map (some B)] 84) (R2 : Row w gb (bcells bs) 5) (hn : bs.length = n) (hm : n ≤ 140737488351232) (ho : OwnM w B k D) (hI : TInv n D T) :
    Calls Try.prog 31 #[.pointer (some ⟨q, 0, none⟩)] w fun e w' => ∃ g', e = .returned (.agg #[.slice (some ⟨g', 0, none⟩) n n, .bool (decide (0 < Maps.size D))]) ∧ w.heap.size ≤ g' ∧ Row w' g' (bcells (xorT bs T)) 5 ∧ Below w.heap.size w w' := by
  have hb0 := below_grow (Below.refl w.heap.size w) (.cells #[.slice none 0 0, .bool false] 32)
  have HC := hid (clone_any (cap := n) (R2.kept hb0 R2.lt).bytes hn (by omega))
  have HR := hid (R1.kept hb0 R1.lt)
  have HZ : Hid (Row (w.alloc (.cells #[.slice none 0 0, .bool false] 32)) w.heap.size [.slice none 0 0, .bool false] 32) := Row.new w [.slice none 0 0, .bool false] 32
  have c0 := HR.out.cell 0 _ rfl
  have HB0 := hid hb0
  have HO := hid (own_kept ho hb0)
  have HI := hid hI
  have HNN := hid hn
  have HM := hid hm
  clear R1 R2 hb0 hm ho hI hn
  go_enter Try.func31, Try.ntmps31
  go_upto_region 2 with (go_at_call 39; refine Calls.mono HC.out ?_; rintro e w1 ⟨g, rfl, hg, hr, hb⟩; have HG := hid hg; have HRB := hid hr; have HB1 := hid hb; clear hg hr hb)
  have HR1 := hid (HR.out.kept HB1.out HR.out.lt)
  have HZ1 := hid (HZ.out.kept HB1.out HZ.out.lt)
  have HO1 := hid (own_kept HO.out HB1.out)
  have HBG := hid (HB0.out.trans (HB1.out.mono HB0.out.size))
  have HGG : Hid (w.heap.size ≤ g) := Nat.le_trans HB0.out.size HG.out
  have c1 := HR1.out.cell 1 _ rfl
  clear c0 HC HB0 HB1 HR HZ HG HO
  go_upto_region 3 with (first
    | (at_range; refine wpList_range_own _ rfl _ 82 rfl 3 5 law3 u82 _ B k _ rfl HO1.out ?_; intro w2 hrg0 hg0 hs0; have HRG := hid hrg0; have HGR := hid hg0; clear hrg0 hg0 hs0; go_frame))
  have HK2 := hid (below_grownN HGR.out (Nat.le_refl _))
  have HRB2 := hid (HRB.out.kept HK2.out HRB.out.lt)
  have HR2 := hid (HR1.out.kept HK2.out HR1.out.lt)
  have HZ2 := hid (HZ1.out.kept HK2.out HZ1.out.lt)
  have HBG2 : Hid (Below w.heap.size w w2) := HBG.out.trans (HK2.out.mono HBG.out.size)
  have HIT : Hid (w.heap.size ≤ w1.heap.size) := HBG.out.size
  generalize w1.heap.size = it at *
  clear HK2 HGR HRB HR1 HZ1 HBG HO1 c1
  go_loopw [4] (fun _ wr => ∃ (left : Lit → Bool) (cnt : Nat), wr.ranges Try.prog 3 (plainElem Try.prog 5) B it k D left cnt ∧ Row wr g (bcells (xorL bs T left)) 5 ∧ Row wr q [.slice (some ⟨gb, 0, none⟩) n n, .map (some B)] 84 ∧ Row wr w.heap.size [.slice none 0 0, .bool false] 32 ∧ Below w.heap.size w wr ∧ ∀ kl, left kl = true → Maps.has D kl = true) (fun _ wr => wr.rangeLeft B it)
  case atStart => exact ⟨_, _, HRG.out, by rw [xorL_start (HNN.out ▸ HI.out)]; exact HRB2.out, HR2.out, HZ2.out, HBG2.out, fun _ h => h⟩
  case round =>
    obtain ⟨left, cnt, hrg, hrow, hq, hz, hbel, hleft⟩ := hrel
    have HRGR := hid hrg
    have HROW := hid hrow
    have HQ := hid hq
    have HZZ := hid hz
    have HBEL := hid hbel
    have HLEFT := hid hleft
    clear hrow hq hz hbel hleft HRG HRB2 HR2 HZ2 HBG2
    go_wp2_with (first
      | (at_next; refine wpList_next_ranges_ii _ rfl _ rfl 3 5 .i64 .u8 law3 Try.underlying3 Try.underlying5 B it k _ _ _ rfl hrg ?_ ?_))
    · intro _ hl0
      have HX := hid (xorL_end (bs := bs) (T := T) hl0)
      have HON := hid HRGR.out.owns
      clear hl0 hrg
      have c1 := HQ.out.cell 1 _ rfl
      have hln := HON.out.len u82
      go_wp2_with (first
        | (show wpList _ _ _ (Oper.mk none (.store 32 (.tmp 2) (.tmp 35)) _ _ _ _ :: _) _ _; refine HZZ.out.wpStore' 32 (.tmp 2) (.tmp 35) [.slice (some ⟨g, 0, none⟩) n n, .bool (decide (0 < Maps.size D))] rfl rfl rfl rfl rfl (by simp [Value.oneCell']) i32 ?_; intro wz HZ))
      have h1 : Row wz w.heap.size [.slice (some ⟨g, 0, none⟩) n n, .bool (decide (0 < Maps.size D))] 32 := by rw [HZ.out]; exact HZZ.out.row _
      have h2 : Row wz g (bcells (xorT bs T)) 5 := by rw [HZ.out, ← HX.out]; exact HROW.out.rowOther (HROW.out.ne HZZ.out (by decide)) _
      have h3 : Below w.heap.size w wz := by rw [HZ.out]; exact below_setRow HBEL.out (Nat.le_refl _) _
      exact bodyPost_ret (v := .agg #[.slice (some ⟨g, 0, none⟩) n n, .bool (decide (0 < Maps.size D))]) (h1.result Try.results31 _ rfl _ Try.underlying32 rfl i32) rfl ⟨g, rfl, HGG.out, h2, h3⟩
    · intro x c w3 cnt1 hwx hwc hlx hat hrg1 hlt hg1 hs1 hen
      obtain ⟨j, hj, ej, hT⟩ := HI.out.has_ _ (HLEFT.out _ hlx)
      have ex : x = (j : Int) := by injection ej
      subst ex
      have hc : c = ub (T j) := by
        have := (hat (.lit (.int .u8 0))).symm.trans (HI.out.at_ j hj)
        injection this with h1
        injection h1
      subst hc
      have hjb : j < bs.length := by rw [HNN.out]; exact hj
      have hr3 := HROW.out.of_block (hg1.block g HROW.out.lt (fun e => (ranges_ne HRGR.out HROW.out).1 (by injection e)))
      have hq3 := HQ.out.of_block (hg1.block q HQ.out.lt (fun e => (ranges_ne HRGR.out HQ.out).1 (by injection e)))
      have hz3 := HZZ.out.of_block (hg1.block _ HZZ.out.lt (fun e => (ranges_ne HRGR.out HZZ.out).1 (by injection e)))
      have hb3 : Below w.heap.size w w3 := HBEL.out.trans ⟨hg1.os, hg1.tape, hg1.output, hg1.size, fun i hi => hg1.block i (Nat.lt_of_lt_of_le hi HBEL.out.size) (fun e => by injection e with e; have := HIT.out; omega)⟩
      have hx : (xorL bs T left)[j]'(by rw [xorL_len]; exact hjb) = bs[j] := by rw [xorL_get hjb, if_pos hlx]
      have c3 : w3.cell? ⟨g, j, none⟩ = some (.int .u8 (ub bs[j])) := by rw [← hx]; exact hr3.cell j _ (bcells_get (by rw [xorL_len]; exact hjb))
      have f3 := hr3.frozen j
      have hne := ranges_ne hrg1 hr3
      have HFIN : Hid (∃ (left : Lit → Bool) (cnt : Nat), (w3.setCell ⟨g, j, none⟩ (.int .u8 (ub (bs[j] ^^^ T j)))).ranges Try.prog 3 (plainElem Try.prog 5) B it k D left cnt ∧ Row (w3.setCell ⟨g, j, none⟩ (.int .u8 (ub (bs[j] ^^^ T j)))) g (bcells (xorL bs T left)) 5 ∧ Row (w3.setCell ⟨g, j, none⟩ (.int .u8 (ub (bs[j] ^^^ T j)))) q [.slice (some ⟨gb, 0, none⟩) n n, .map (some B)] 84 ∧ Row (w3.setCell ⟨g, j, none⟩ (.int .u8 (ub (bs[j] ^^^ T j)))) w.heap.size [.slice none 0 0, .bool false] 32 ∧ Below w.heap.size w (w3.setCell ⟨g, j, none⟩ (.int .u8 (ub (bs[j] ^^^ T j)))) ∧ ∀ kl, left kl = true → Maps.has D kl = true) := by
        refine ⟨_, cnt1, hrg1.kept (grown_setCell w3 ⟨g, j, none⟩ _) (fun e => hne.2 (by injection e with e; exact e.symm)) (fun e => hne.1 (by injection e with e; exact e.symm)), ?_, hq3.setOther _ (hq3.ne hr3 (by decide)) _, hz3.setOther _ (hz3.ne hr3 (by decide)) _, hb3.setCell HGG.out _, fun kl h => HLEFT.out kl (by simp at h; exact h.1)⟩
        rw [← xorL_step hjb, ← bcells_set]
        exact hr3.set j _
      have HMS : Hid ((w3.setCell ⟨g, j, none⟩ (.int .u8 (ub (bs[j] ^^^ T j)))).rangeLeft B it < wr.rangeLeft B it) := by
        have h1 := (hrg1.kept (grown_setCell w3 ⟨g, j, none⟩ (.int .u8 (ub (bs[j] ^^^ T j)))) (fun e => hne.2 (by injection e with e; exact e.symm)) (fun e => hne.1 (by injection e with e; exact e.symm))).left_eq
        have h2 := HRGR.out.left_eq
        show _ < _
        rw [h1, h2]
        exact hlt
      have l1 : (j : Int) < (n : Int) := by omega
      have l0 : (0 : Int) ≤ (j : Int) := by omega
      clear hrg hr3 hq3 hz3 hb3 hx hne hrg1 hg1 hs1 hlt hat hlx hT hwx hwc ej
      go_wp2
      go_roundw
      case rel => exact HFIN.out
      case measure => exact HMS.out
end Go.Proofs.Ytjnmfedefmemnaa
