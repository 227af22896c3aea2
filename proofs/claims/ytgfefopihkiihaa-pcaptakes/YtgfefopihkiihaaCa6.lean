import Derived.Test.YtgfefopihkiihaaCa2
import Derived.Test.YtgfefopihkiihaaCa3
import Derived.Test.YtgfefopihkiihaaCa5
namespace Go.Proofs.Ytgfefopihkiihaa
open Go.RowKit Go.Maps
set_option maxRecDepth 100000

/-- A capture's cells. -/
def capC (little nano : Bool) (snap link : Int) (v : Value) : List Value := [.bool little, .bool nano, .int .u32 snap, .int .u32 link, v]
abbrev cz : List Value := [.bool false, .bool false, .int .u32 0, .int .u32 0, .slice none 0 0]
theorem capC_one {little nano : Bool} {snap link : Int} {v : Value} (hv : v.oneCell' = true) : ∀ u ∈ capC little nano snap link v, u.oneCell' = true := by
  intro u hu
  simp only [capC, List.mem_cons, List.not_mem_nil, or_false] at hu
  rcases hu with rfl | rfl | rfl | rfl | rfl
  · rfl
  · rfl
  · rfl
  · rfl
  · exact hv
theorem own_cell {w : World} {b : Nat} {t : TypeId} {sz : Nat} {v : Value} {n : Nat} {xs : List Value} (h : w.ownsRow b t sz v n xs) : v.oneCell' = true := by
  rcases h.2 with ⟨rfl, _⟩ | ⟨g, cap, cur, rfl, _⟩ <;> rfl
theorem own_slice {w : World} {b : Nat} {t : TypeId} {sz : Nat} {v : Value} {n : Nat} {xs : List Value} (h : w.ownsRow b t sz v n xs) : ∃ av n c, v = .slice av n c := by
  rcases h.2 with ⟨rfl, _⟩ | ⟨g, cap, cur, rfl, _⟩ <;> exact ⟨_, _, _, rfl⟩
/-- An event that is told. -/
def Evt.fits (e : Evt) : Bool := e.good && decide (e.bs.length ≤ 262132)
theorem fits_view : ∀ {l L : List Evt}, l.map Evt.view = L.map Evt.view → (l.filter Evt.fits).map (fun e => e.pk 1000) = (L.filter Evt.fits).map (fun e => e.pk 1000)
  | [], [], _ => rfl
  | [], _ :: _, h => by simp at h
  | _ :: _, [], h => by simp at h
  | e :: l, f :: L, h => by
    simp only [List.map_cons, List.cons.injEq] at h
    have ih := fits_view h.2
    obtain ⟨a, b, c, d, x, y, z⟩ := e
    obtain ⟨a', b', c', d', x', y', z'⟩ := f
    have hv := h.1
    simp only [Evt.view, Prod.mk.injEq] at hv
    obtain ⟨rfl, rfl, rfl, rfl, rfl⟩ := hv
    simp only [List.filter_cons]
    have e1 : Evt.fits ⟨a, b, c, d, x, y, z⟩ = Evt.fits ⟨a, b, c, d, x', y', z⟩ := rfl
    rw [e1]
    split
    · simp only [List.map_cons, ih]
      rfl
    · exact ih
/-- A capture of events, made anew. -/
def OfNew (w w' : World) (l : List Evt) (en : Ending) : Prop := ∃ v P, en = .returned (.agg (capC false false 262144 147 v).toArray) ∧ PksOwn w' w.heap.size v P ∧ P.map Pkt.view = (l.filter Evt.fits).map (fun e => e.pk 1000) ∧ Below w.heap.size w w'
/-- So far. -/
structure OfI (b : Nat) (w wx : World) (l : List Evt) (j : Nat) (v : Value) (P : List Pkt) : Prop where
  res : Row wx b cz 27
  cap : Row wx (b + 1) (capC false false 262144 147 v) 27
  own : wx.ownsRow b 58 4 v P.length (flat pcells P)
  by_ : ∀ p ∈ P, OwnBy wx b p.val p.bs
  view : P.map Pkt.view = ((l.take j).filter Evt.fits).map (fun e => e.pk 1000)
  below : Below b w wx
  len : P.length ≤ j
theorem OfI.kept {b : Nat} {w wx wy : World} {l : List Evt} {j : Nat} {v : Value} {P : List Pkt} (h : OfI b w wx l j v P) (hb : Below wx.heap.size wx wy) : OfI b w wy l j v P :=
  ⟨h.res.kept hb h.res.lt, h.cap.kept hb h.cap.lt, own_below h.own hb, fun p hp => own_below (h.by_ p hp) hb, h.view, h.below.trans (hb.mono (by have := h.cap.lt; omega)), h.len⟩
theorem OfI.skip {b : Nat} {w wx : World} {l : List Evt} {j : Nat} {v : Value} {P : List Pkt} {e : Evt} (h : OfI b w wx l j v P) (he : l[j]? = some e) (hf : e.fits = false) : OfI b w wx l (j + 1) v P :=
  ⟨h.res, h.cap, h.own, h.by_, by
    have hj := (List.getElem?_eq_some_iff.1 he).1
    rw [List.take_succ_eq_append_getElem hj, (List.getElem?_eq_some_iff.1 he).2, List.filter_append, List.map_append, h.view]
    simp [hf], h.below, Nat.le_succ_of_le h.len⟩
theorem ofi_add {b : Nat} {w wx wy : World} {l : List Evt} {j : Nat} {v v' : Value} {P : List Pkt} {e : Evt} {p : Pkt} (h : OfI b w wx l j v P) (he : l[j]? = some e) (hf : e.fits = true) (hp : p.view = e.pk 1000) (hres : Row wy b cz 27) (hcap : Row wy (b + 1) (capC false false 262144 147 v') 27)
    (hown : wy.ownsRow b 58 4 v' (P ++ [p]).length (flat pcells (P ++ [p]))) (hby : ∀ x ∈ P ++ [p], OwnBy wy b x.val x.bs) (hbl : Below b w wy) : OfI b w wy l (j + 1) v' (P ++ [p]) :=
  ⟨hres, hcap, hown, hby, by
    have hj := (List.getElem?_eq_some_iff.1 he).1
    rw [List.take_succ_eq_append_getElem hj, (List.getElem?_eq_some_iff.1 he).2, List.filter_append, List.map_append, List.map_append, h.view]
    simp [hf, hp], hbl, by have := h.len; simp; omega⟩
set_option maxHeartbeats 8000000 in
theorem of_any {w : World} {a : Option Addr} {c : Nat} {l : List Evt} (h : EvsAt w a l) (hl : l.length ≤ 2513169434916) :
    Calls Try.prog 10 #[.slice a l.length c] w fun en w' => OfNew w w' l en := by
  have HE := hid h
  have R := Row.new w cz 27
  have hs1 : (w.alloc (.cells cz.toArray 27)).heap.size = w.heap.size + 1 := by simp
  have R2 := Row.new (w.alloc (.cells cz.toArray 27)) (capC false false 262144 147 (.slice none 0 0)) 27
  have R1 := R.alloc (.cells (capC false false 262144 147 (.slice none 0 0)).toArray 27)
  rw [hs1] at R2
  have HB1 := hid ((below_new w (.cells cz.toArray 27)).trans ((below_new (w.alloc (.cells cz.toArray 27)) (.cells (capC false false 262144 147 (.slice none 0 0)).toArray 27)).mono (below_new w _).size))
  have hll : (l.length : Int) ≤ 2513169434916 := by omega
  clear R
  go_enter Try.func10, Try.ntmps10
  go_upto_region 3 with fail
  refine wp_world fun w1 HW1 => ?_
  obtain ⟨b, hb⟩ : ∃ b, w.heap.size = b := ⟨_, rfl⟩
  have HR1 : Hid (Row w1 b cz 27) := by rw [HW1.out, ← hb]; exact R1
  have HR2 : Hid (Row w1 (b + 1) (capC false false 262144 147 (.slice none 0 0)) 27) := by rw [HW1.out, ← hb]; exact R2
  have HB1' : Hid (Below b w w1) := by rw [HW1.out, ← hb]; exact HB1.out
  rw [hb]
  have HBB := hid hb
  clear R1 R2 HB1 h hb HW1
  go_loopw [9] (fun t wx => ∃ (j : Nat) (v : Value) (P : List Pkt), t = .int .i64 j ∧ j ≤ l.length ∧ OfI b w wx l j v P) (fun t _ => l.length - (intOf t).toNat)
  case atStart =>
    exact ⟨0, .slice none 0 0, [], by go_num, Nat.zero_le _, ⟨HR1.out, HR2.out, ⟨rfl, .inl ⟨rfl, rfl⟩⟩, fun p hp => absurd hp List.not_mem_nil, rfl, HB1'.out, Nat.le_refl _⟩⟩
  case round =>
    obtain ⟨j, v, P, rfl, hj, hI⟩ := hrel
    have HI := hid hI
    have hj0 : (0 : Int) ≤ (j : Int) := by omega
    clear HR1 HR2 HB1'
    by_cases hjl : j < l.length
    · have hji : (j : Int) < (l.length : Int) := by omega
      obtain ⟨e, he⟩ : ∃ e, l[j]? = some e := ⟨_, List.getElem?_eq_getElem hjl⟩
      have hk := HE.out.kept (HBB.out.symm ▸ hI.below)
      obtain ⟨g, o, rfl, hc⟩ := hk.row j e he
      have c0 : wr.cell? ⟨g, o + j * 5, none⟩ = some (.int .i64 e.what) := hc 0 _ rfl
      have c1 : wr.cell? ⟨g, o + j * 5 + 1, none⟩ = some (.int .i64 e.side) := hc 1 _ rfl
      have c2 : wr.cell? ⟨g, o + j * 5 + 2, none⟩ = some (.int .i64 e.path) := hc 2 _ rfl
      have c3 : wr.cell? ⟨g, o + j * 5 + 3, none⟩ = some (.int .u64 e.clock) := hc 3 _ rfl
      have c4 : wr.cell? ⟨g, o + j * 5 + 4, none⟩ = some (.slice e.fa e.bs.length e.fc) := hc 4 _ rfl
      have HOK := hid (hk.ok e (List.mem_of_getElem? he))
      have HTK : Hid (∀ X : List Evt → List (Int × Int × Int × List (BitVec 8)), True) := fun _ => trivial
      have HLE := hid he
      clear hc hk he hI
      go_upto_region 5 with fail
      refine wp_world fun wq HWq => ?_
      obtain ⟨q, hq⟩ : ∃ q, wr.heap.size = q := ⟨_, rfl⟩
      have hRq : Row wq q (ecells e) 33 := by rw [HWq.out, ← hq]; exact Row.new wr _ 33
      have hbq : Below wr.heap.size wr wq := by rw [HWq.out]; exact below_new wr _
      rw [hq]
      have HIq := hid (HI.out.kept hbq)
      have HKq := hid (HOK.out.kept hbq)
      have HBO := hid (bounded_any wq e)
      have d0 := hRq.cell 0 _ rfl
      have d1 := hRq.cell 1 _ rfl
      have d2 := hRq.cell 2 _ rfl
      have d3 := hRq.cell 3 _ rfl
      have d4 := hRq.cell 4 _ rfl
      have HRq := hid hRq
      have HQ := hid hq
      clear c0 c1 c2 c3 c4 HWq hbq hRq HI HOK hq HTK
      generalize hgd : e.good = gd at *
      have HGD := hid hgd
      clear hgd
      cases gd with
      | false =>
        have HFT : Hid (e.fits = false) := by show _ = _; unfold Evt.fits; rw [HGD.out]; rfl
        go_wp2_with (go_at_call 25; refine HBO.out.mono ?_; rintro en w6 ⟨rfl, hb6⟩)
        go_roundw
        case rel => exact ⟨j + 1, v, P, by go_num, by omega, (HIq.out.kept hb6).skip HLE.out HFT.out⟩
        case measure => simp [intOf]; omega
      | true =>
        by_cases hn : e.bs.length ≤ 262132
        · have HFT : Hid (e.fits = true) := by show _ = _; unfold Evt.fits; rw [HGD.out, decide_eq_true hn]; rfl
          have hni : ((e.bs.length : Nat) : Int) ≤ 262132 := by omega
          go_upto_region 6 with (go_at_call 25; refine HBO.out.mono ?_; rintro en w6 ⟨rfl, hb6⟩; have d4' := cell_kept hb6 d4; clear d4)
          clear d4'
          have HR6 := hid (HRq.out.kept hb6 HRq.out.lt)
          have HI6 := hid (HIq.out.kept hb6)
          have HK6 := hid (HKq.out.kept hb6)
          have hln : l.length ≤ 2513169434916 := hl
          clear hb6 HIq HRq HKq HBO
          refine wp_region_some (fun w' => w'.cell? ⟨b + 1, 4, none⟩ = some v ∧ Row w' q (ecells e) 33) [7] (by kernel_rfl) ?_
          have hHeld := (show (fun w' => w'.cell? ⟨b + 1, 4, none⟩ = some v ∧ Row w' q (ecells e) 33) w6.drew from ⟨(HI6.out.cap.drew 1).cell 4 _ rfl, HR6.out.drew 1⟩)
          refine wpAnyG_take' (i := 0) (oi := { dst := some 21, op := Go.Op.fieldAddr 27 (Go.Operand.tmp 3) 4, type := 0, pos := "pcap.go:44", after := #[], guard := none }) (v := ?v1_0) rfl (by kernel_rfl) (by kernel_rfl) (by kernel_rfl) (fun _ _ _ h => h) (Or.inl ⟨by kernel_rfl, ?h1_0⟩) ?r1_0
          case h1_0 => (intro wt hSw; clear hSw; go_simp; try with_reducible rfl)
          simp only [Act.put, List.setIfInBounds_toArray, List.set_cons_zero, List.set_cons_succ]
          refine wpAnyG_take (i := 1) (oi := { dst := some 22, op := Go.Op.load 25 (Go.Operand.tmp 21), type := 25, pos := "pcap.go:44", after := #[{ on := 0, ground := Go.Ground.data }], guard := none }) (v := v) (by kernel_rfl) rfl (by kernel_rfl) (by kernel_rfl) (by kernel_rfl) (by kernel_rfl) (fun _ _ _ h => h) (Or.inl ⟨by kernel_rfl, ?h1_1⟩) (by assumption) ?r1_1
          case h1_1 => (intro wt hSw; (try dsimp only at hSw); obtain ⟨s0, s1⟩ := hSw; go_simp; try rfl)
          simp only [Act.put, List.setIfInBounds_toArray, List.set_cons_zero, List.set_cons_succ]
          refine wpAnyG_take (i := 2) (oi := { dst := some 23, op := Go.Op.load 33 (Go.Operand.tmp 5), type := 33, pos := "pcap.go:44", after := #[], guard := none }) (v := .agg (ecells e).toArray) (by kernel_rfl) rfl (by kernel_rfl) (by kernel_rfl) (by kernel_rfl) (by kernel_rfl) (fun _ _ _ h => h) (Or.inl ⟨by kernel_rfl, ?h1_2⟩) (by assumption) ?r1_2
          case h1_2 => (intro wt hSw; (try dsimp only at hSw); obtain ⟨s0, s1⟩ := hSw; have d0 := s1.cell 0 _ rfl; have d1 := s1.cell 1 _ rfl; have d2 := s1.cell 2 _ rfl; have d3 := s1.cell 3 _ rfl; have d4 := s1.cell 4 _ rfl; clear s0 s1; go_simp; try rfl)
          simp only [Act.put, List.setIfInBounds_toArray, List.set_cons_zero, List.set_cons_succ]
          refine wpAnyG_one (i := 3) (o := { dst := some 24, op := Go.Op.call { callee := Go.Callee.value (Go.Operand.func 26), args := #[Go.Operand.tmp 23], argTypes := #[33] }, type := 58, pos := "pcap.go:44", after := #[{ on := 2, ground := Go.Ground.data }], guard := none }) rfl (by kernel_rfl) (by kernel_rfl) ?_
          refine step_callxi (f := 26) (args := #[.agg (ecells e).toArray]) (G := fun v2 w2 => ∃ p : Pkt, v2 = .agg (pcells p).toArray ∧ p.view = e.pk 1000 ∧ OwnBy w2 w6.heap.size p.val p.bs ∧ Below w6.heap.size w6 w2) (by first | kernel_rfl | go_simp) ((packetOf_any (HK6.out.kept (below_drewN (Below.refl _ _) 1)) hn).mono (fun en w2 h => by obtain ⟨p, h1, h2, h3, h4⟩ := h; exact ⟨_, h1, p, rfl, h2, h3, Below.trans (below_drewN (Below.refl _ _) 1) h4⟩)) ?_
          rintro v7 w7 ⟨p, rfl, hpv, hpo, hpb⟩
          have hHeld7 := (show (fun w' => w'.cell? ⟨b + 1, 4, none⟩ = some v ∧ Row w' q (ecells e) 33) w7 from ⟨cell_kept hpb hHeld.1, Row.kept (w := w6) (⟨hHeld.2.at_⟩ : Row w6 q (ecells e) 33) hpb hHeld.2.lt⟩)
          refine ⟨fun _ _ => hHeld7, ?_⟩
          simp only [Act.put, List.setIfInBounds_toArray, List.set_cons_zero, List.set_cons_succ]
          refine wpAnyG_one (i := 4) (o := { dst := some 25, op := Go.Op.buildSlice 25 1 #[(0, Go.Operand.tmp 24)], type := 25, pos := "pcap.go:44", after := #[{ on := 3, ground := Go.Ground.data }], guard := none }) rfl (by kernel_rfl) (by kernel_rfl) ?_
          refine step_bslP (p := p) rfl rfl ?_
          have hHeld8 := (show (fun w' => w'.cell? ⟨b + 1, 4, none⟩ = some v ∧ Row w' q (ecells e) 33) (w7.alloc (.cells (pcells p).toArray 58)) from ⟨cell_kept (below_new _ _) hHeld7.1, hHeld7.2.alloc _⟩)
          refine ⟨fun _ _ => hHeld8, ?_⟩
          simp only [Act.put, List.setIfInBounds_toArray, List.set_cons_zero, List.set_cons_succ]
          refine wpAnyG_one (i := 5) (o := { dst := some 26, op := Go.Op.call { callee := Go.Callee.builtin Go.Builtin.append, args := #[Go.Operand.tmp 22, Go.Operand.tmp 25], argTypes := #[25, 25] }, type := 25, pos := "pcap.go:44", after := #[{ on := 1, ground := Go.Ground.data }, { on := 4, ground := Go.Ground.data }, { on := 3, ground := Go.Ground.chain }], guard := none }) rfl (by kernel_rfl) (by kernel_rfl) ?_
          have hb8 : Below w6.heap.size w6 (w7.alloc (.cells (pcells p).toArray 58)) := hpb.trans ((below_new w7 _).mono hpb.size)
          have hI8 := HI6.out.kept hb8
          obtain ⟨v9, w9, hr9, ho9, hF9, ha9⟩ := push_runP hI8.own (by have := hI8.cap.lt; omega) (by have := hI8.len; omega) (Row.new w7 (pcells p) 58) 25
          have hne : ∀ {k : Nat} {cc : List Value} {t : TypeId}, Row (w7.alloc (.cells (pcells p).toArray 58)) k cc t → t ≠ 58 → ¬ v.ownBlock = some k := fun hr ht e => own_row hI8.own hr (fun e2 => ht e2.symm) e
          refine step_app (.tmp 22) (.tmp 25) 25 rfl rfl rfl hr9 ?_
          have hHeld9 := (show (fun w' => w'.cell? ⟨b + 1, 4, none⟩ = some v ∧ Row w' q (ecells e) 33) w9 from ⟨hF9.cell hHeld8.1 (hne hI8.cap (by decide)), hF9.row hHeld8.2 (hne hHeld8.2 (by decide))⟩)
          refine ⟨fun _ _ => hHeld9, ?_⟩
          simp only [Act.put, List.setIfInBounds_toArray, List.set_cons_zero, List.set_cons_succ]
          refine wpAnyG_take' (i := 6) (oi := { dst := some 27, op := Go.Op.fieldAddr 27 (Go.Operand.tmp 3) 4, type := 0, pos := "pcap.go:44", after := #[{ on := 0, ground := Go.Ground.phase }, { on := 1, ground := Go.Ground.phase }, { on := 2, ground := Go.Ground.phase }, { on := 3, ground := Go.Ground.phase }, { on := 4, ground := Go.Ground.phase }, { on := 5, ground := Go.Ground.phase }], guard := none }) (v := ?v1_6) rfl (by kernel_rfl) (by kernel_rfl) (by kernel_rfl) (fun _ _ _ h => h) (Or.inl ⟨by kernel_rfl, ?h1_6⟩) ?r1_6
          case h1_6 => (intro wt hSw; clear hSw; go_simp; try with_reducible rfl)
          simp only [Act.put, List.setIfInBounds_toArray, List.set_cons_zero, List.set_cons_succ]
          refine wpAnyG_one (i := 7) (o := { dst := none, op := Go.Op.store 25 (Go.Operand.tmp 27) (Go.Operand.tmp 26), type := 0, pos := "pcap.go:44", after := #[{ on := 6, ground := Go.Ground.data }, { on := 5, ground := Go.Ground.data }, { on := 5, ground := Go.Ground.chain }, { on := 0, ground := Go.Ground.phase }, { on := 1, ground := Go.Ground.phase }, { on := 2, ground := Go.Ground.phase }, { on := 3, ground := Go.Ground.phase }, { on := 4, ground := Go.Ground.phase }, { on := 5, ground := Go.Ground.phase }], guard := none }) rfl (by kernel_rfl) (by kernel_rfl) ?_
          have hR9 := hF9.row hI8.cap (hne hI8.cap (by decide))
          have q4 := hR9.cell 4 _ rfl
          have f4 := hR9.frozen 4
          refine step_store25 (b := b + 1) (k := 4) (v := v9) rfl rfl rfl (own_slice ho9) q4 f4 ?_
          refine ⟨fun h => absurd (by simp) h, ?_⟩
          simp only [Act.put]
          refine wpAnyG_done (by kernel_rfl) ?_ _
          have hFt : Fr (fun k => k = b + 1) w9 (w9.setCell ⟨b + 1, 4, none⟩ v9) := (Fr.refl (fun k => k = b + 1) w9).setCell (b + 1) 4 v9 (.inl rfl)
          have hRt : Row (w9.setCell ⟨b + 1, 4, none⟩ v9) (b + 1) (capC false false 262144 147 v9) 27 := hR9.set 4 v9
          have hIn : OfI b w (w9.setCell ⟨b + 1, 4, none⟩ v9) l (j + 1) v9 (P ++ [p]) := by
            refine ofi_add hI8 HLE.out HFT.out hpv (hFt.row (hF9.row hI8.res (hne hI8.res (by decide))) (by omega)) hRt (hFt.own ho9 (fun g e' e => own_row ho9 hR9 (by decide) (e'.trans (by rw [e])))) (fun x hx => ?_) ?_
            · have h1 : OwnBy (w7.alloc (.cells (pcells p).toArray 58)) b x.val x.bs := by
                rcases List.mem_append.1 hx with hx | hx
                · exact hI8.by_ x hx
                · simp at hx
                  rw [hx]
                  exact own_below (own_less hpo (by have := HI6.out.cap.lt; omega)) (below_new w7 _)
              have h2 := hF9.own h1 (fun g e' e => own_two h1 hI8.own (by decide) e' e)
              exact hFt.own h2 (fun g e' e => own_row h2 hR9 (by decide) (e'.trans (by rw [e])))
            · exact hI8.below.trans ((hF9.below (fun g e => own_ge hI8.own e) (by have := hI8.cap.lt; omega)).trans (hFt.below (fun x e => by omega) (by have := hR9.lt; omega)))
          have HIN := hid hIn
          clear hHeld hHeld7 hHeld8 hHeld9 hr9 ho9 hF9 ha9 hne hb8 hI8 hR9 q4 f4 hFt hRt hIn hpo hpb hpv
          go_wp2_with fail
          go_roundw
          case rel => exact ⟨j + 1, v9, P ++ [p], by go_num, by omega, HIN.out⟩
          case measure => simp [intOf]; omega
        · have HFT : Hid (e.fits = false) := by show _ = _; unfold Evt.fits; rw [HGD.out, decide_eq_false hn]; rfl
          have hni : ¬ ((e.bs.length : Nat) : Int) ≤ 262132 := by omega
          go_wp2_with (go_at_call 25; refine HBO.out.mono ?_; rintro en w6 ⟨rfl, hb6⟩; have d4' := cell_kept hb6 d4; clear d4)
          go_roundw
          case rel => exact ⟨j + 1, v, P, by go_num, by omega, (HIq.out.kept hb6).skip HLE.out HFT.out⟩
          case measure => simp [intOf]; omega
    · obtain rfl : j = l.length := by omega
      have hji : ¬ (l.length : Int) < (l.length : Int) := by omega
      have HRB := hid hI.res
      have HRC := hid hI.cap
      have HOP := hid hI.own
      have HOB := hid hI.by_
      have HVW := hid hI.view
      have HBW := hid hI.below
      clear hI HI
      go_wp2_with (first
        | (show wpList _ _ _ (Oper.mk _ (.load 27 (.tmp 3)) _ _ _ _ :: _) _ _; refine HRC.out.wpLoad 27 (.tmp 3) rfl rfl rfl _ Try.underlying27 rfl info_27 ?_)
        | (show wpList _ _ _ (Oper.mk none (.store 27 (.tmp 2) (.tmp 29)) _ _ _ _ :: _) _ _; refine HRB.out.wpStore' 27 (.tmp 2) (.tmp 29) (capC false false 262144 147 v) rfl rfl rfl rfl rfl (capC_one (own_cell HOP.out)) info_27 ?_; intro w9 HW9))
      have R9 : Row w9 b (capC false false 262144 147 v) 27 := by rw [HW9.out]; exact HRB.out.row _
      have hF9 : Fr (fun k => k = b) wr w9 := by rw [HW9.out]; exact fr_row _ _ _
      have hB9 : Below b w w9 := HBW.out.trans (hF9.below (fun x e => by omega) (by have := HBW.out.size; have := HBB.out; omega))
      have hOP9 : w9.ownsRow b 58 4 v P.length (flat pcells P) := hF9.own HOP.out (fun g e' e => own_row HOP.out HRB.out (by decide) (e'.trans (by rw [e])))
      have hOB9 : ∀ p ∈ P, OwnBy w9 b p.val p.bs := fun p hp => hF9.own (HOB.out p hp) (fun g e' e => own_row (HOB.out p hp) HRB.out (by decide) (e'.trans (by rw [e])))
      have hvw := HVW.out
      rw [List.take_length] at hvw
      refine bodyPost_ret (v := .agg (capC false false 262144 147 v).toArray) (R9.result Try.results10 _ rfl _ Try.underlying27 rfl info_27) rfl ⟨v, P, rfl, ⟨?_, ?_⟩, hvw, ?_⟩
      · rw [HBB.out]; exact hOP9
      · rw [HBB.out]; exact hOB9
      · rw [HBB.out]; exact hB9
end Go.Proofs.Ytgfefopihkiihaa
