import Derived.Test.YtgfefopihkiihaaCa6
namespace Go.Proofs.Ytgfefopihkiihaa
open Go.RowKit Go.Maps
set_option maxRecDepth 100000

set_option maxHeartbeats 4000000 in
/-- The same packets. -/
theorem samePkt_any {w : World} {p q : Pkt} (hp : BytesAt w p.fa p.bs) (hq : BytesAt w q.fa q.bs) (h : p.view = q.view) :
    Calls Try.prog 27 #[.agg (pcells p).toArray, .agg (pcells q).toArray] w fun en w' => en = .returned (.bool true) ∧ Below w.heap.size w w' := by
  have R := Row.new w (pcells p) 58
  have R1 := R.alloc (.cells (pcells q).toArray 58)
  have R2 := Row.new (w.alloc (.cells (pcells p).toArray 58)) (pcells q) 58
  have hs1 : (w.alloc (.cells (pcells p).toArray 58)).heap.size = w.heap.size + 1 := by simp
  rw [hs1] at R2
  have HB1 := hid ((below_new w (.cells (pcells p).toArray 58)).trans ((below_new (w.alloc (.cells (pcells p).toArray 58)) (.cells (pcells q).toArray 58)).mono (below_new w _).size))
  obtain ⟨s, t, n, fa, fc, bs⟩ := p
  obtain ⟨s', t', n', fa', fc', bs'⟩ := q
  simp only [Pkt.view, Prod.mk.injEq] at h
  obtain ⟨rfl, rfl, rfl, rfl⟩ := h
  have HC1 := hid (convert_any (cap := fc) (hp.kept HB1.out) rfl)
  have HC2 := hid (convert_any (cap := fc') (hq.kept HB1.out) rfl)
  go_enter Try.func27, Try.ntmps27
  go_upto_region 1 with fail
  refine wp_world fun w1 HW1 => ?_
  have x0 : w1.cell? ⟨w.heap.size, 0, none⟩ = some (.int .u32 s) := by rw [HW1.out]; exact R1.cell 0 _ rfl
  have x1 : w1.cell? ⟨w.heap.size, 1, none⟩ = some (.int .u32 t) := by rw [HW1.out]; exact R1.cell 1 _ rfl
  have x2 : w1.cell? ⟨w.heap.size, 2, none⟩ = some (.int .u32 n) := by rw [HW1.out]; exact R1.cell 2 _ rfl
  have x3 : w1.cell? ⟨w.heap.size, 3, none⟩ = some (.slice fa bs.length fc) := by rw [HW1.out]; exact R1.cell 3 _ rfl
  have y0 : w1.cell? ⟨w.heap.size + 1, 0, none⟩ = some (.int .u32 s) := by rw [HW1.out]; exact R2.cell 0 _ rfl
  have y1 : w1.cell? ⟨w.heap.size + 1, 1, none⟩ = some (.int .u32 t) := by rw [HW1.out]; exact R2.cell 1 _ rfl
  have y2 : w1.cell? ⟨w.heap.size + 1, 2, none⟩ = some (.int .u32 n) := by rw [HW1.out]; exact R2.cell 2 _ rfl
  have y3 : w1.cell? ⟨w.heap.size + 1, 3, none⟩ = some (.slice fa' bs.length fc') := by rw [HW1.out]; exact R2.cell 3 _ rfl
  have hc1 : (convert 31 9 (.slice fa bs.length fc)).run Try.prog w1 = .ok (.string (strOf bs)) w1 := by rw [HW1.out]; exact HC1.out
  have hc2 : (convert 31 9 (.slice fa' bs.length fc')).run Try.prog w1 = .ok (.string (strOf bs)) w1 := by rw [HW1.out]; exact HC2.out
  have HB2 : Hid (Below w.heap.size w w1) := by rw [HW1.out]; exact HB1.out
  clear R R1 R2 hs1 HB1 HC1 HC2 HW1 hp hq
  generalize strOf bs = st at *
  generalize bs.length = k at *
  go_wp2_with fail
  go_ret
  exact ⟨by simp, HB2.out⟩
set_option maxHeartbeats 8000000 in
/-- The same events. -/
theorem sameEvs_any {w : World} {a a' : Option Addr} {c c' : Nat} {l l' : List Evt} (h : EvsAt w a l) (h' : EvsAt w a' l') (hv : l.map Evt.view = l'.map Evt.view) (hl : l.length ≤ 2513169434916) :
    Calls Try.prog 11 #[.slice a l.length c, .slice a' l'.length c'] w fun en w' => en = .returned (.bool true) ∧ Below w.heap.size w w' := by
  have HE := hid h
  have HE' := hid h'
  have HV := hid hv
  have hlen : l'.length = l.length := by have := congrArg List.length hv; simpa using this.symm
  have hll : (l.length : Int) ≤ 2513169434916 := by omega
  rw [hlen]
  have HLE := hid hlen
  obtain ⟨b, hb⟩ : ∃ b, w.heap.size = b := ⟨_, rfl⟩
  rw [hb]
  have HB := hid hb
  clear h h' hv hlen hb
  go_enter Try.func11, Try.ntmps11
  go_upto_region 4 with fail
  go_loopw [15] (fun t wx => ∃ j : Nat, t = .int .i64 j ∧ j ≤ l.length ∧ Below b w wx) (fun t _ => l.length - (intOf t).toNat)
  case atStart => exact ⟨0, by go_num, Nat.zero_le _, Below.refl _ _⟩
  case round =>
    obtain ⟨j, rfl, hj, hBw⟩ := hrel
    have hj0 : (0 : Int) ≤ (j : Int) := by omega
    have HBw := hid hBw
    by_cases hjl : j < l.length
    · have hji : (j : Int) < (l.length : Int) := by omega
      obtain ⟨e, he⟩ : ∃ e, l[j]? = some e := ⟨_, List.getElem?_eq_getElem hjl⟩
      obtain ⟨f, hf⟩ : ∃ f, l'[j]? = some f := ⟨_, List.getElem?_eq_getElem (by have := HLE.out; omega)⟩
      have hview : e.view = f.view := by
        have h1 := congrArg (fun x => x[j]?) HV.out
        simp only [List.getElem?_map, he, hf, Option.map_some, Option.some.injEq] at h1
        exact h1
      have hk := HE.out.kept (HB.out.symm ▸ hBw)
      have hk' := HE'.out.kept (HB.out.symm ▸ hBw)
      obtain ⟨g, o, rfl, hc⟩ := hk.row j e he
      obtain ⟨g', o', rfl, hc'⟩ := hk'.row j f hf
      have hby := (hk.ok e (List.mem_of_getElem? he)).at_
      have hby' := (hk'.ok f (List.mem_of_getElem? hf)).at_
      obtain ⟨wh, sd, pa, ck, fa, fc, bs⟩ := e
      obtain ⟨wh', sd', pa', ck', fa', fc', bs'⟩ := f
      simp only [Evt.view, Prod.mk.injEq] at hview
      obtain ⟨rfl, rfl, rfl, rfl, rfl⟩ := hview
      have c0 : wr.cell? ⟨g, o + j * 5, none⟩ = some (.int .i64 wh) := hc 0 _ rfl
      have c1 : wr.cell? ⟨g, o + j * 5 + 1, none⟩ = some (.int .i64 sd) := hc 1 _ rfl
      have c2 : wr.cell? ⟨g, o + j * 5 + 2, none⟩ = some (.int .i64 pa) := hc 2 _ rfl
      have c3 : wr.cell? ⟨g, o + j * 5 + 3, none⟩ = some (.int .u64 ck) := hc 3 _ rfl
      have c4 : wr.cell? ⟨g, o + j * 5 + 4, none⟩ = some (.slice fa bs.length fc) := hc 4 _ rfl
      have e0 : wr.cell? ⟨g', o' + j * 5, none⟩ = some (.int .i64 wh) := hc' 0 _ rfl
      have e1 : wr.cell? ⟨g', o' + j * 5 + 1, none⟩ = some (.int .i64 sd) := hc' 1 _ rfl
      have e2 : wr.cell? ⟨g', o' + j * 5 + 2, none⟩ = some (.int .i64 pa) := hc' 2 _ rfl
      have e3 : wr.cell? ⟨g', o' + j * 5 + 3, none⟩ = some (.int .u64 ck) := hc' 3 _ rfl
      have e4 : wr.cell? ⟨g', o' + j * 5 + 4, none⟩ = some (.slice fa' bs.length fc') := hc' 4 _ rfl
      clear hc hc' hk hk' hBw he hf
      have HBY := hid hby
      have HBY' := hid hby'
      clear hby hby'
      have hgl : g < wr.heap.size := World.block_lt_of_cell? wr _ c0
      have hgl' : g' < wr.heap.size := World.block_lt_of_cell? wr _ e0
      have hgn : g ≠ wr.heap.size := by omega
      have hgn' : g' ≠ wr.heap.size := by omega
      have hgm : g ≠ wr.heap.size + 1 := by omega
      have hgm' : g' ≠ wr.heap.size + 1 := by omega
      go_upto_region 6 with fail
      go_region
      · go_upto_region 7 with fail
        refine wp_world fun w6 HW6 => ?_
        have RA : Row w6 wr.heap.size [.int .i64 wh, .int .i64 sd, .int .i64 pa, .int .u64 ck, .slice fa bs.length fc] 33 := by rw [HW6.out]; exact ((Row.new wr [.int .i64 wh, .int .i64 sd, .int .i64 pa, .int .u64 ck, .slice fa bs.length fc] 33).alloc _).drew 1
        have RB : Row w6 (wr.heap.size + 1) [.int .i64 wh, .int .i64 sd, .int .i64 pa, .int .u64 ck, .slice fa' bs.length fc'] 33 := by
          rw [HW6.out]
          have h2 := (Row.new (wr.alloc (.cells ([.int .i64 wh, .int .i64 sd, .int .i64 pa, .int .u64 ck, .slice fa bs.length fc]).toArray 33)) [.int .i64 wh, .int .i64 sd, .int .i64 pa, .int .u64 ck, .slice fa' bs.length fc'] 33).drew 1
          have h3 : (wr.alloc (.cells ([.int .i64 wh, .int .i64 sd, .int .i64 pa, .int .u64 ck, .slice fa bs.length fc] : List Value).toArray 33)).heap.size = wr.heap.size + 1 := by simp
          rw [h3] at h2
          exact h2
        have hbl : Below wr.heap.size wr w6 := by
          rw [HW6.out]
          exact below_drewN ((below_new wr _).trans ((below_new _ _).mono (below_new wr _).size)) 1
        have HB6 : Hid (Below b w w6) := HBw.out.trans (hbl.mono (by have := HBw.out.size; have := HB.out; omega))
        have hc1 := convert_any (cap := fc) (HBY.out.kept hbl) rfl
        have hc2 := convert_any (cap := fc') (HBY'.out.kept hbl) rfl
        have x0 := RA.cell 0 _ rfl
        have x1 := RA.cell 1 _ rfl
        have x2 := RA.cell 2 _ rfl
        have x3 := RA.cell 3 _ rfl
        have x4 := RA.cell 4 _ rfl
        have y0 := RB.cell 0 _ rfl
        have y1 := RB.cell 1 _ rfl
        have y2 := RB.cell 2 _ rfl
        have y3 := RB.cell 3 _ rfl
        have y4 := RB.cell 4 _ rfl
        clear RA RB hbl HW6 c0 c1 c2 c3 c4 e0 e1 e2 e3 e4 hgl hgl' hgn hgn' hgm hgm'
        simp only at hc1 hc2
        generalize strOf bs = st at *
        generalize bs.length = k at *
        go_wp2_with fail
        go_roundw
        case rel => exact ⟨j + 1, by go_num, by omega, HB6.out⟩
        case measure => simp [intOf]; omega
      · go_upto_region 7 with fail
        refine wp_world fun w6 HW6 => ?_
        have RA : Row w6 wr.heap.size [.int .i64 wh, .int .i64 sd, .int .i64 pa, .int .u64 ck, .slice fa' bs.length fc'] 33 := by rw [HW6.out]; exact ((Row.new wr [.int .i64 wh, .int .i64 sd, .int .i64 pa, .int .u64 ck, .slice fa' bs.length fc'] 33).alloc _).drew 1
        have RB : Row w6 (wr.heap.size + 1) [.int .i64 wh, .int .i64 sd, .int .i64 pa, .int .u64 ck, .slice fa bs.length fc] 33 := by
          rw [HW6.out]
          have h2 := (Row.new (wr.alloc (.cells ([.int .i64 wh, .int .i64 sd, .int .i64 pa, .int .u64 ck, .slice fa' bs.length fc']).toArray 33)) [.int .i64 wh, .int .i64 sd, .int .i64 pa, .int .u64 ck, .slice fa bs.length fc] 33).drew 1
          have h3 : (wr.alloc (.cells ([.int .i64 wh, .int .i64 sd, .int .i64 pa, .int .u64 ck, .slice fa' bs.length fc'] : List Value).toArray 33)).heap.size = wr.heap.size + 1 := by simp
          rw [h3] at h2
          exact h2
        have hbl : Below wr.heap.size wr w6 := by
          rw [HW6.out]
          exact below_drewN ((below_new wr _).trans ((below_new _ _).mono (below_new wr _).size)) 1
        have HB6 : Hid (Below b w w6) := HBw.out.trans (hbl.mono (by have := HBw.out.size; have := HB.out; omega))
        have hc1 := convert_any (cap := fc) (HBY.out.kept hbl) rfl
        have hc2 := convert_any (cap := fc') (HBY'.out.kept hbl) rfl
        have x0 := RB.cell 0 _ rfl
        have x1 := RB.cell 1 _ rfl
        have x2 := RB.cell 2 _ rfl
        have x3 := RB.cell 3 _ rfl
        have x4 := RB.cell 4 _ rfl
        have y0 := RA.cell 0 _ rfl
        have y1 := RA.cell 1 _ rfl
        have y2 := RA.cell 2 _ rfl
        have y3 := RA.cell 3 _ rfl
        have y4 := RA.cell 4 _ rfl
        clear RA RB hbl HW6 c0 c1 c2 c3 c4 e0 e1 e2 e3 e4 hgl hgl' hgn hgn' hgm hgm'
        simp only at hc1 hc2
        generalize strOf bs = st at *
        generalize bs.length = k at *
        go_wp2_with fail
        go_roundw
        case rel => exact ⟨j + 1, by go_num, by omega, HB6.out⟩
        case measure => simp [intOf]; omega
    · obtain rfl : j = l.length := by omega
      have hji : ¬ (l.length : Int) < (l.length : Int) := by omega
      clear hBw
      go_wp2_with fail
      go_ret
      exact ⟨rfl, HBw.out⟩
end Go.Proofs.Ytgfefopihkiihaa
