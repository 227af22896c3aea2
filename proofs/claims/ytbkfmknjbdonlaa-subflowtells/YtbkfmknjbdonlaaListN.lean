import Derived.Test.YtbkfmknjbdonlaaListU
namespace Go.Proofs.Ytbkfmknjbdonlaa
open Go.RowKit Go.Maps
set_option maxRecDepth 100000

set_option maxHeartbeats 2000000 in
/-- The items that are wanted, in the order of numbers. -/
theorem list_none (hSort : SortI) {w : World} {b : Nat} {U : List It} (hm : OwnU w b U) (hU : Rising U) (hlen : U.length * 40 ≤ 140737488355328) (f : Nat) (p : It → Bool)
    (eg : ∀ args w, (callFunc f args).run Try.prog w = .ok (.enter f args) w)
    (hf : ∀ (W : World) (x : It), x ∈ U → Below w.heap.size w W → Calls Try.prog f #[x.val] W fun e w' => e = .returned (.bool (p x)) ∧ Below W.heap.size W w') :
    Calls Try.prog 54 #[.map (some b), .func (.func f) #[] #[]] w fun e w' => ∃ v, e = .returned v ∧ w'.ownsRow w.heap.size 60 5 v (U.filter p).length (flatI (U.filter p)) ∧ Below w.heap.size w w' := by
  have hbw : b < w.heap.size := World.ownsMap.lt hm
  have HF : Hid _ := hf
  have HU : Hid _ := hU
  clear hf hU
  obtain ⟨i0, hi, hz0, hz1, hz2⟩ := info_parts info60
  go_enter Try.func54, Try.ntmps54
  go_wp2_with (at_range; refine wpList_range_own _ rfl _ 83 rfl 36 60 law36 Try.underlying83 readIt b U.length (UD U) rfl hm ?_; intro w0 hrg0 hg0 hs0)
  go_frame
  have HB0 : Hid (Below w.heap.size w w0) := grown_below hg0
  have HR0 : Hid _ := hrg0
  have HS0 : Hid _ := hs0
  clear hg0 hrg0 hm hs0
  go_loopw [5] (fun s5 wr => ∃ (left : Lit → Bool) (cnt : Nat) (acc : List It), wr.ranges Try.prog 36 readIt b w.heap.size U.length (UD U) left cnt ∧ wr.ownsRow (w.heap.size + 1) 60 5 s5 acc.length (flatI acc) ∧ Gath U p left acc ∧ Below w.heap.size w wr ∧ w.heap.size + 1 ≤ wr.heap.size) (fun _ wr => wr.rangeLeft b w.heap.size)
  case atStart => exact ⟨_, _, [], HR0.out, ⟨rfl, .inl ⟨rfl, rfl⟩⟩, Gath.start U p, HB0.out, by have := HS0.out; omega⟩
  case round =>
    obtain ⟨left, cnt, acc, hrg, hrow, hG, hb, hsz⟩ := hrel
    have HRG : Hid _ := hrg
    have HROW : Hid _ := hrow
    have HG : Hid _ := hG
    have HBr : Hid _ := hb
    have HSZ : Hid _ := hsz
    clear hrg hrow hG hb hsz HB0 HR0 HS0
    go_wp2_with (at_next; refine next_items rfl _ rfl b w.heap.size U left cnt rfl HRG.out ?_ ?_)
    · intro hl
      have hS := sort_own hSort HROW.out (by have := HG.out.length_le; omega)
      go_wp2_with (go_at_call 70; refine hS.mono ?_; rintro e w2 ⟨rfl, L', hp, hs, hro, hgr⟩)
      go_ret
      obtain rfl := HG.out.done HU.out hl hp hs
      refine ⟨_, rfl, own_mono hro (Nat.le_succ _), HBr.out.grown hgr HBr.out.size (fun k e => ?_)⟩
      have := own_ge HROW.out e
      omega
    · intro c w1 cnt1 hc hl hrg1 hlt hg1 hs1 hen
      have HST := hid (HG.out.step HU.out hc hl)
      have HB1 : Hid (Below w.heap.size w w1) := HBr.out.grown hg1 HBr.out.size (fun k e => by simp at e; omega)
      have HR1 := hid hrg1
      have HL := hid (World.ranges.left_eq HRG.out)
      have HLT := hid hlt
      have HO1 := hid (own_kept HROW.out hg1 (fun g hg e => by have := own_ge HROW.out hg; simp only [Option.some.injEq] at e; omega))
      have HS1 := hid (show w.heap.size + 1 ≤ w1.heap.size by have := HSZ.out; omega)
      clear hrg1 hlt hg1 hl hs1 HRG HROW HBr HSZ
      have HW : Hid (Below w.heap.size w (w1.alloc (.cells c.cells.toArray 60))) := HB1.out.alloc HB1.out.size _
      have hF := HF.out _ c hc HW.out
      obtain ⟨n, k, o, l, t⟩ := c
      simp only [It.val, It.cells] at hen hF HW ⊢
      cases hp : p ⟨n, k, o, l, t⟩
      · rw [hp] at hF
        have HP := hid hp
        clear hp
        go_wp2_with (go_at_fn f; refine hF.mono ?_; rintro e w2 ⟨rfl, hb2⟩; have HB2 := hid hb2; clear hb2)
        go_roundw
        case rel =>
          have hall := (below_grow (Below.refl w1.heap.size w1) _).trans (HB2.out.mono (below_grow (Below.refl w1.heap.size w1) _).size)
          refine ⟨_, cnt1, acc, ranges_below HR1.out hall, own_below HO1.out hall, ?_, HB1.out.trans (hall.mono HB1.out.size), Nat.le_trans HS1.out hall.size⟩
          have := HST.out
          rw [if_neg (by rw [HP.out]; simp)] at this
          exact this
        case measure =>
          have hall := (below_grow (Below.refl w1.heap.size w1) _).trans (HB2.out.mono (below_grow (Below.refl w1.heap.size w1) _).size)
          rw [World.ranges.left_eq (ranges_below HR1.out hall), HL.out]
          exact HLT.out
      · rw [hp] at hF
        have HP := hid hp
        clear hp
        go_wp2_with (first | (go_at_fn f; refine hF.mono ?_; rintro e w2 ⟨rfl, hb2⟩; obtain ⟨d0, d1, d2, d3, d4⟩ := box5 hb2; have HALL := hid ((below_grow (Below.refl w1.heap.size w1) _).trans (hb2.mono (below_grow (Below.refl w1.heap.size w1) _).size)); clear hb2; have HO2 := hid (own_below HO1.out HALL.out)) | (at_builtin; refine wpList_append_own _ rfl _ _ 49 rfl (w.heap.size + 1) 60 i0 (.agg #[.int .u64 0, .int .i64 0, .int .u64 0, .int .i64 0, .int .u64 0]) 5 40 Try.underlying49 hi hz0 hz1 hz2 rfl (by decide) _ _ _ rfl (World.ownsRow.alloc HO2.out _) ⟨w2.heap.size, 0, none⟩ 1 1 [.int .u64 n, .int .i64 k, .int .u64 o, .int .i64 l, .int .u64 t] rfl rfl ?c1 ?c2 ?c3 ?c4 ?c5 ?_))
        case c1 => exact box_range w2 60 _
        case c2 => exact flatI_one [⟨n, k, o, l, t⟩]
        case c3 => have := HG.out.length_le; unfold maxLen; omega
        case c4 => have := nodup_len HST.out.nodup (fun x hx => ((HST.out.mem x).1 hx).1); rw [if_pos HP.out] at this; simp at this; omega
        case c5 => have := HS1.out; have := HALL.out.size; simp; omega
        intro v' w3 hown3 hgr3 _
        have HO3 := hid hown3
        have HG3 := hid hgr3
        clear hown3 hgr3
        go_wp2
        go_roundw
        case rel =>
          have hg2 := (World.grownBy_alloc w2 (.cells #[.int .u64 n, .int .i64 k, .int .u64 o, .int .i64 l, .int .u64 t] 60) none)
          have hb3 : Below w.heap.size w w3 := (HB1.out.trans (HALL.out.mono HB1.out.size)).trans ((grown_below hg2).mono (Nat.le_trans HB1.out.size HALL.out.size)) |>.grown HG3.out (Nat.le_trans HB1.out.size (Nat.le_trans HALL.out.size hg2.size)) (fun g e => by have := own_ge HO2.out e; omega)
          refine ⟨_, cnt1, acc ++ [⟨n, k, o, l, t⟩], (ranges_below (ranges_below HR1.out HALL.out) (grown_below hg2)).kept HG3.out (fun e => ?_) (fun e => ?_), ?_, ?_, hb3, ?_⟩
          · have := own_ge HO2.out e.symm; omega
          · have := own_ge HO2.out e.symm; omega
          · rw [List.length_append, flatI_append]; exact HO3.out
          · have := HST.out
            rw [if_pos HP.out] at this
            exact this
          · have := HS1.out; have := HALL.out.size; have := hg2.size; have := HG3.out.size; omega
        case measure =>
          have hg2 := (World.grownBy_alloc w2 (.cells #[.int .u64 n, .int .i64 k, .int .u64 o, .int .i64 l, .int .u64 t] 60) none)
          have hr := (ranges_below (ranges_below HR1.out HALL.out) (grown_below hg2)).kept HG3.out (fun e => by have := own_ge HO2.out e.symm; omega) (fun e => by have := own_ge HO2.out e.symm; omega)
          rw [World.ranges.left_eq hr, HL.out]
          exact HLT.out
end Go.Proofs.Ytbkfmknjbdonlaa
