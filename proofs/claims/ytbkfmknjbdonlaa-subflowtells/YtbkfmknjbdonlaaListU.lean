import Derived.Test.YtbkfmknjbdonlaaList0
namespace Go.Proofs.Ytbkfmknjbdonlaa
open Go.RowKit Go.Maps
set_option maxRecDepth 100000

theorem ranges_below {w w' : World} {b r n : Nat} {D : DM} {left : Lit → Bool} {cnt : Nat} (h : w.ranges Try.prog 36 readIt b r n D left cnt) (hb : Below w.heap.size w w') : w'.ranges Try.prog 36 readIt b r n D left cnt := h.kept (below_grown hb) (by simp) (by simp)
theorem own_below {w w' : World} {base : Nat} {e : TypeId} {size : Nat} {v : Value} {n : Nat} {xs : List Value} (h : w.ownsRow base e size v n xs) (hb : Below w.heap.size w w') : w'.ownsRow base e size v n xs := own_kept h (below_grown hb) (by simp)
theorem own_mono {w : World} {base base' : Nat} {e : TypeId} {size : Nat} {v : Value} {n : Nat} {xs : List Value} (h : w.ownsRow base e size v n xs) (hb : base' ≤ base) : w.ownsRow base' e size v n xs := by
  refine ⟨h.1, h.2.imp id ?_⟩
  rintro ⟨g, cap, cur, h1, h2, h3⟩
  exact ⟨g, cap, cur, h1, Nat.le_trans hb h2, h3⟩
theorem box_cell (w : World) (t : TypeId) (c : Array Value) (j : Nat) (v : Value) (h : c[j]? = some v) : (w.alloc (.cells c t)).cell? ⟨w.heap.size, j, none⟩ = some v := by
  rw [cell_of_row _ _ _ _ _ _ (heap_alloc_new w _)]
  exact h
theorem box_range (w : World) (t : TypeId) (l : List Value) (j : Nat) (u : Value) (h : l[j]? = some u) : (w.alloc (.cells l.toArray t)).cell? ((⟨w.heap.size, 0, none⟩ : Addr).add j) = some u := by
  rw [show (⟨w.heap.size, 0, none⟩ : Addr).add j = ⟨w.heap.size, j, none⟩ by simp [Addr.add]; exact fun h => h.symm]
  exact box_cell w t _ j u (by simpa using h)
theorem box5 {w1 w2 : World} {a b c d e : Value} {t : TypeId} (hb : Below (w1.alloc (.cells #[a, b, c, d, e] t)).heap.size (w1.alloc (.cells #[a, b, c, d, e] t)) w2) :
    w2.cell? ⟨w1.heap.size, 0, none⟩ = some a ∧ w2.cell? ⟨w1.heap.size, 1, none⟩ = some b ∧ w2.cell? ⟨w1.heap.size, 2, none⟩ = some c ∧ w2.cell? ⟨w1.heap.size, 3, none⟩ = some d ∧ w2.cell? ⟨w1.heap.size, 4, none⟩ = some e :=
  ⟨rcell_kept hb (box_cell w1 t _ 0 _ rfl), rcell_kept hb (box_cell w1 t _ 1 _ rfl), rcell_kept hb (box_cell w1 t _ 2 _ rfl), rcell_kept hb (box_cell w1 t _ 3 _ rfl), rcell_kept hb (box_cell w1 t _ 4 _ rfl)⟩
/-- What 'range' over the map gives. -/
theorem next_items {w : World} {ops : Array Oper} {rest : List Oper} {o : Oper} {a : Act} {Q : Exit → Act → World → Prop} (hg : o.guard = none) (it : Operand) (hop : o.op = Op.next it false) (b r : Nat) (U : List It) (left : Lit → Bool) (cnt : Nat)
    (hit : a.eval it = .pointer (some ⟨r, 0, none⟩)) (h : w.ranges Try.prog 36 readIt b r U.length (UD U) left cnt)
    (hDone : (∀ kl, left kl = false) → wpList Try.prog ops Q rest (a.put o.dst (.tuple #[.bool false])) w)
    (hMore : ∀ (c : It) (w' : World) (cnt' : Nat), c ∈ U → left (kw c.num) = true → w'.ranges Try.prog 36 readIt b r U.length (UD U) (fun z => left z && !z.sameKey (kw c.num)) cnt' → cnt' < cnt → w.grownBy w' (some r) → w'.heap.size = w.heap.size →
      (Instr.entry (.pointer (some ⟨r, 0, none⟩))).run Try.prog w' = .ok (.tuple #[.int .u64 c.num, c.val]) w' → wpList Try.prog ops Q rest (a.put o.dst (.tuple #[.bool true, .int .u64 c.num, c.val])) w') :
    wpList Try.prog ops Q (o :: rest) a w :=
  wpList_next_ranges w hg it hop 36 law36 readIt (fun n : Int => .int .u64 n) It.val (fun key kl hk => by obtain ⟨x, rfl, _⟩ := keyOf_int_inv Try.underlying36 hk; exact ⟨x, rfl⟩) (fun v y hv => by obtain ⟨x, rfl, _⟩ := readIt_inv hv; exact ⟨x, rfl⟩)
    b r U.length (UD U) left cnt hit h (fun _ hl => hDone hl) (fun x c kl y w' cnt' hkey hlk hv hat hrg hlt hgr hsz hen => by
      obtain ⟨x', ex, rfl, _⟩ := keyOf_int_inv Try.underlying36 hkey
      cases ex
      rw [readIt_val] at hv
      cases hv
      obtain ⟨hc, rfl⟩ := UD_at hat
      exact hMore c w' cnt' hc hlk hrg hlt hgr hsz hen)

set_option maxHeartbeats 2000000 in
/-- The items that are wanted, in the order of numbers. -/
theorem list_one (hSort : SortI) {w : World} {b : Nat} {U : List It} (hm : OwnU w b U) (hU : Rising U) (hlen : U.length * 40 ≤ 140737488355328) (f : Nat) (c0 : Value) (p : It → Bool)
    (eg : ∀ args w, (callFunc f args).run Try.prog w = .ok (.enter f args) w)
    (hf : ∀ (W : World) (x : It), x ∈ U → Below w.heap.size w W → Calls Try.prog f #[x.val, c0] W fun e w' => e = .returned (.bool (p x)) ∧ Below W.heap.size W w') :
    Calls Try.prog 54 #[.map (some b), .func (.func f) #[] #[c0]] w fun e w' => ∃ v, e = .returned v ∧ w'.ownsRow w.heap.size 60 5 v (U.filter p).length (flatI (U.filter p)) ∧ Below w.heap.size w w' := by
  have hbw : b < w.heap.size := World.ownsMap.lt hm
  have HF : Hid _ := hf
  have HU : Hid _ := hU
  clear hf hU
  obtain ⟨i0, hi, hz0, hz1, hz2⟩ := info_parts info60
  go_enter Try.func54, Try.ntmps54
  go_wp2_with (at_range; refine wpList_range_own _ rfl _ 83 rfl 36 60 law36 Try.underlying83 readIt b U.length (UD U) rfl hm ?_; intro w0 hrg0 hg0 hs0)
  go_frame
  have HB0 : Hid (Below w.heap.size w w0) := grown_below hg0
  have HR0 : Hid _ := hrg0
  have HS0 : Hid _ := hs0
  clear hg0 hrg0 hm hs0
  go_loopw [5] (fun s5 wr => ∃ (left : Lit → Bool) (cnt : Nat) (acc : List It), wr.ranges Try.prog 36 readIt b w.heap.size U.length (UD U) left cnt ∧ wr.ownsRow (w.heap.size + 1) 60 5 s5 acc.length (flatI acc) ∧ Gath U p left acc ∧ Below w.heap.size w wr ∧ w.heap.size + 1 ≤ wr.heap.size) (fun _ wr => wr.rangeLeft b w.heap.size)
  case atStart => exact ⟨_, _, [], HR0.out, ⟨rfl, .inl ⟨rfl, rfl⟩⟩, Gath.start U p, HB0.out, by have := HS0.out; omega⟩
  case round =>
    obtain ⟨left, cnt, acc, hrg, hrow, hG, hb, hsz⟩ := hrel
    have HRG : Hid _ := hrg
    have HROW : Hid _ := hrow
    have HG : Hid _ := hG
    have HBr : Hid _ := hb
    have HSZ : Hid _ := hsz
    clear hrg hrow hG hb hsz HB0 HR0 HS0
    go_wp2_with (at_next; refine next_items rfl _ rfl b w.heap.size U left cnt rfl HRG.out ?_ ?_)
    · intro hl
      have hS := sort_own hSort HROW.out (by have := HG.out.length_le; omega)
      go_wp2_with (go_at_call 70; refine hS.mono ?_; rintro e w2 ⟨rfl, L', hp, hs, hro, hgr⟩)
      go_ret
      obtain rfl := HG.out.done HU.out hl hp hs
      refine ⟨_, rfl, own_mono hro (Nat.le_succ _), HBr.out.grown hgr HBr.out.size (fun k e => ?_)⟩
      have := own_ge HROW.out e
      omega
    · intro c w1 cnt1 hc hl hrg1 hlt hg1 hs1 hen
      have HST := hid (HG.out.step HU.out hc hl)
      have HB1 : Hid (Below w.heap.size w w1) := HBr.out.grown hg1 HBr.out.size (fun k e => by simp at e; omega)
      have HR1 := hid hrg1
      have HL := hid (World.ranges.left_eq HRG.out)
      have HLT := hid hlt
      have HO1 := hid (own_kept HROW.out hg1 (fun g hg e => by have := own_ge HROW.out hg; simp only [Option.some.injEq] at e; omega))
      have HS1 := hid (show w.heap.size + 1 ≤ w1.heap.size by have := HSZ.out; omega)
      clear hrg1 hlt hg1 hl hs1 HRG HROW HBr HSZ
      have HW : Hid (Below w.heap.size w (w1.alloc (.cells c.cells.toArray 60))) := HB1.out.alloc HB1.out.size _
      have hF := HF.out _ c hc HW.out
      obtain ⟨n, k, o, l, t⟩ := c
      simp only [It.val, It.cells] at hen hF HW ⊢
      cases hp : p ⟨n, k, o, l, t⟩
      · rw [hp] at hF
        have HP := hid hp
        clear hp
        go_wp2_with (go_at_fn f; refine hF.mono ?_; rintro e w2 ⟨rfl, hb2⟩; have HB2 := hid hb2; clear hb2)
        go_roundw
        case rel =>
          have hall := (below_grow (Below.refl w1.heap.size w1) _).trans (HB2.out.mono (below_grow (Below.refl w1.heap.size w1) _).size)
          refine ⟨_, cnt1, acc, ranges_below HR1.out hall, own_below HO1.out hall, ?_, HB1.out.trans (hall.mono HB1.out.size), Nat.le_trans HS1.out hall.size⟩
          have := HST.out
          rw [if_neg (by rw [HP.out]; simp)] at this
          exact this
        case measure =>
          have hall := (below_grow (Below.refl w1.heap.size w1) _).trans (HB2.out.mono (below_grow (Below.refl w1.heap.size w1) _).size)
          rw [World.ranges.left_eq (ranges_below HR1.out hall), HL.out]
          exact HLT.out
      · rw [hp] at hF
        have HP := hid hp
        clear hp
        go_wp2_with (first | (go_at_fn f; refine hF.mono ?_; rintro e w2 ⟨rfl, hb2⟩; obtain ⟨d0, d1, d2, d3, d4⟩ := box5 hb2; have HALL := hid ((below_grow (Below.refl w1.heap.size w1) _).trans (hb2.mono (below_grow (Below.refl w1.heap.size w1) _).size)); clear hb2; have HO2 := hid (own_below HO1.out HALL.out)) | (at_builtin; refine wpList_append_own _ rfl _ _ 49 rfl (w.heap.size + 1) 60 i0 (.agg #[.int .u64 0, .int .i64 0, .int .u64 0, .int .i64 0, .int .u64 0]) 5 40 Try.underlying49 hi hz0 hz1 hz2 rfl (by decide) _ _ _ rfl (World.ownsRow.alloc HO2.out _) ⟨w2.heap.size, 0, none⟩ 1 1 [.int .u64 n, .int .i64 k, .int .u64 o, .int .i64 l, .int .u64 t] rfl rfl ?c1 ?c2 ?c3 ?c4 ?c5 ?_))
        case c1 => exact box_range w2 60 _
        case c2 => exact flatI_one [⟨n, k, o, l, t⟩]
        case c3 => have := HG.out.length_le; unfold maxLen; omega
        case c4 => have := nodup_len HST.out.nodup (fun x hx => ((HST.out.mem x).1 hx).1); rw [if_pos HP.out] at this; simp at this; omega
        case c5 => have := HS1.out; have := HALL.out.size; simp; omega
        intro v' w3 hown3 hgr3 _
        have HO3 := hid hown3
        have HG3 := hid hgr3
        clear hown3 hgr3
        go_wp2
        go_roundw
        case rel =>
          have hg2 := (World.grownBy_alloc w2 (.cells #[.int .u64 n, .int .i64 k, .int .u64 o, .int .i64 l, .int .u64 t] 60) none)
          have hb3 : Below w.heap.size w w3 := (HB1.out.trans (HALL.out.mono HB1.out.size)).trans ((grown_below hg2).mono (Nat.le_trans HB1.out.size HALL.out.size)) |>.grown HG3.out (Nat.le_trans HB1.out.size (Nat.le_trans HALL.out.size hg2.size)) (fun g e => by have := own_ge HO2.out e; omega)
          refine ⟨_, cnt1, acc ++ [⟨n, k, o, l, t⟩], (ranges_below (ranges_below HR1.out HALL.out) (grown_below hg2)).kept HG3.out (fun e => ?_) (fun e => ?_), ?_, ?_, hb3, ?_⟩
          · have := own_ge HO2.out e.symm; omega
          · have := own_ge HO2.out e.symm; omega
          · rw [List.length_append, flatI_append]; exact HO3.out
          · have := HST.out
            rw [if_pos HP.out] at this
            exact this
          · have := HS1.out; have := HALL.out.size; have := hg2.size; have := HG3.out.size; omega
        case measure =>
          have hg2 := (World.grownBy_alloc w2 (.cells #[.int .u64 n, .int .i64 k, .int .u64 o, .int .i64 l, .int .u64 t] 60) none)
          have hr := (ranges_below (ranges_below HR1.out HALL.out) (grown_below hg2)).kept HG3.out (fun e => by have := own_ge HO2.out e.symm; omega) (fun e => by have := own_ge HO2.out e.symm; omega)
          rw [World.ranges.left_eq hr, HL.out]
          exact HLT.out
end Go.Proofs.Ytbkfmknjbdonlaa
