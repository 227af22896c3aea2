import Derived.Test.YtaklbofbhanjgaaDoorUp1
import Derived.Test.YtaklbofbhanjgaaDoorPt1
namespace Go.Proofs.YtaklbofbhanjgaaDoor
open Go.RowKit
set_option maxRecDepth 100000
theorem exec_load {o : Oper} {ev : Operand → Value} {w : World} {g : Nat} {ty : TypeId} {x : Operand} {v : Value} (hs : (Instr.loadAt ty (.pointer (some ⟨g, 0, none⟩))).run Tryd.prog w = .ok v w) (ho : o.op = .load ty x) (hx : ev x = .pointer (some ⟨g, 0, none⟩)) : (execOp ev o).run Tryd.prog w = .ok (.value v) w := by
  simp [execOp, ho, hx, hs]
set_option maxHeartbeats 2000000 in
theorem up_left2 {w : World} {pF pI pU pO i lo m hi : Nat} {f x y : List (BitVec 8)} {fo : FuncId} {c0 c1 : Value} {S : Nat → Prop} {J G : World → Prop} (h : UpAt w pF pI pU pO f i (.func (.func fo) #[] #[c0, c1])) (hx : x.length = 32) (hy : y.length = 32) (hhi : hi ≤ 4611686018427387904) (hlo : lo + 2 ≤ hi) (hm : splitN (hi - lo) = m) (him : i < lo + m)
    (h1 : ¬ S 1) (hF : ¬ S pF) (hI : ¬ S pI) (hU : ¬ S pU) (hO : ¬ S pO) (hS : ∀ k, S k → k < w.heap.size)
    (eg : ∀ args w, (callFunc fo args).run Tryd.prog w = .ok (.enter fo args) w)
    (hup : ∀ wa, Below w.heap.size w wa → Calls Tryd.prog 74 #[.int .i64 (lo : Int), .int .i64 ((lo : Int) + m), .pointer (some ⟨pF, 0, none⟩), .pointer (some ⟨pI, 0, none⟩), .pointer (some ⟨pU, 0, none⟩), .pointer (some ⟨pO, 0, none⟩)] wa fun e w' => e = .returned (.agg (bcells x).toArray) ∧ Fr S wa w' ∧ J w')
    (hot : ∀ wb, J wb → Fr S w wb → Calls Tryd.prog fo #[.int .i64 ((lo : Int) + m), .int .i64 (hi : Int), c0, c1] wb fun e w' => ∃ v, e = .returned v ∧ v = .agg (bcells y).toArray ∧ Fr S wb w' ∧ G w')
    (hJ : ∀ w1 w2, J w1 → Fr (fun k => w.heap.size ≤ k) w1 w2 → J w2) (hG : ∀ w1 w2, G w1 → Fr (fun k => w.heap.size ≤ k) w1 w2 → G w2) :
    Calls Tryd.prog 74 #[.int .i64 (lo : Int), .int .i64 (hi : Int), .pointer (some ⟨pF, 0, none⟩), .pointer (some ⟨pI, 0, none⟩), .pointer (some ⟨pU, 0, none⟩), .pointer (some ⟨pO, 0, none⟩)] w fun e w' => e = .returned (.agg (bcells (nodeS x y)).toArray) ∧ Fr S w w' ∧ G w' := by
  have H := hid h
  have HX := hid hx
  have HY := hid hy
  have I73 := hid i44
  have HNS := hid (And.intro h1 (And.intro hF (And.intro hI (And.intro hU hO))))
  have HS := hid hS
  have HUP := hid hup
  have HOT := hid hot
  have HJ := hid hJ
  have HG := hid hG
  obtain ⟨s1, s2, s3, -, -⟩ := splitN_bd (n := hi - lo) (by omega) (by omega)
  have HSP : Hid (∀ w, Calls Tryd.prog 75 #[.int .i64 ((hi : Int) - lo)] w fun e w' => e = .returned (.int .i64 (m : Int)) ∧ w' = w) := fun w => by
    have := split_any (n := hi - lo) w (by omega) (by omega)
    rw [hm, show ((hi - lo : Nat) : Int) = (hi : Int) - lo by omega] at this
    exact this
  rw [hm] at s1 s2 s3
  have q1 : (hi : Int) ≤ 4611686018427387904 := by omega
  have q2 : (lo : Int) + 2 ≤ hi := by omega
  have q3 : (m : Int) < (hi : Int) - lo := by omega
  have q4 : (i : Int) < (lo : Int) + m := by omega
  have q5 : ¬ ((hi : Int) - lo = 1) := by omega
  clear h hx hy h1 hF hI hU hO hS hup hot hJ hG hm s1 s2 s3 him hlo hhi
  go_enter Tryd.func74, Tryd.ntmps74
  go_upto_region 1 with (fail)
  refine wp_world fun wa HW => ?_
  have HRr : Hid (Row wa w.heap.size (bcells z32) 25) := by show Row _ _ _ _; rw [HW.out]; exact Row.new' _ _ _ _ _ rfl rfl
  have HBa : Hid (Below w.heap.size w wa) := by show Below _ _ _; rw [HW.out]; exact (Below.refl _ _).alloc (Nat.le_refl _) _
  have HSz : Hid (wa.heap.size = w.heap.size + 1) := by show _ = _; rw [HW.out]; simp
  clear HW
  have HUa := hid (H.out.kept HBa.out)
  have u1 := HUa.out.i
  have u2 := HUa.out.u
  have HC := hid (HUP.out wa HBa.out)
  have HFa : Hid (Fr S w wa) := hid (Fr.of_below HBa.out (Nat.le_refl _))
  have HSb : Hid (∀ k, ¬ S (w.heap.size + k)) := fun k hk => by have := HS.out _ hk; omega
  go_wp2_with (first
    | (go_at_call 75; refine (HSP.out _).mono ?_; rintro e w' ⟨rfl, hw'⟩; rw [hw']; clear hw' w')
    | (go_at_call 74; refine Calls.mono HC.out ?_; rintro e w2 ⟨rfl, hb2⟩
       have HB2 := hid hb2
       have HR2 : Hid (Row w2 w.heap.size (bcells z32) 25) := hid (hb2.1.row HRr.out (HSb.out 0))
       have HF2 : Hid (Fr S w w2) := hid (HFa.out.trans hb2.1 fun x hx => Or.inl hx)
       have HZ2 : Hid (w.heap.size + 1 ≤ w2.heap.size) := by show _ ≤ _; have := hb2.1.size; rw [HSz.out] at this; exact this
       obtain ⟨b2, eb2⟩ : ∃ b, w2.heap.size = b := ⟨_, rfl⟩
       have HE2 := hid eb2
       have HN2 : Hid (Row (w2.alloc (.cells (bcells z32).toArray 25)) b2 (bcells z32) 25) := by show Row _ _ _ _; rw [← eb2]; exact Row.new _ _ _
       clear hb2 eb2)
    | (show wpList _ _ _ (Oper.mk none (.store 25 (.tmp 10) (.tmp 29)) _ _ _ _ :: _) _ _; rw [HE2.out]; refine HN2.out.wpStore' 25 (.tmp 10) (.tmp 29) (bcells x) rfl rfl rfl rfl (by rw [bcells_len, bcells_len, HX.out]; rfl) (bcells_one _) (by rw [bcells_len, HX.out]; exact I73.out) ?_; intro w3 HZ))
  have h0 := HZ.out
  have hb3 : Below w2.heap.size w2 w3 := by rw [h0]; exact Go.below_setRow (below_new w2 _) (by rw [HE2.out]; exact Nat.le_refl _) _
  have HR10 : Hid (Row w3.drew b2 (bcells x) 25) := by have : Row w3 b2 (bcells x) 25 := by { rw [h0]; exact HN2.out.row _ }; exact ⟨this.at_⟩
  have HR8 : Hid (Row w3.drew w.heap.size (bcells z32) 25) := ⟨((HR2.out.kept hb3 HR2.out.lt)).at_⟩
  have bd : Below w3.heap.size w3 w3.drew := ⟨rfl, rfl, rfl, Nat.le_refl _, fun _ _ => rfl⟩
  have HF3 : Hid (Fr S w w3.drew) := hid ((HF2.out.trans (Fr.of_below (S := S) hb3 (Nat.le_refl _)) fun x hx => Or.inl hx).trans (Fr.of_below (S := S) bd (Nat.le_refl _)) fun x hx => Or.inl hx)
  have HU3 := hid (H.out.fr HF3.out HNS.out.1 HNS.out.2.1 HNS.out.2.2.1 HNS.out.2.2.2.1 HNS.out.2.2.2.2)
  have HC4 := hid (HOT.out w3.drew (HJ.out _ _ (HJ.out _ _ HB2.out.2 (Fr.of_below hb3 (Nat.le_refl _))) (Fr.of_below bd (Nat.le_refl _))) HF3.out)
  have HSO : Hid (∀ k, w.heap.size ≤ k → ¬ S k) := fun k hk hs => by have := HS.out _ hs; omega
  have HBB : Hid (w.heap.size ≤ b2) := by show _ ≤ _; have := HZ2.out; rw [HE2.out] at this; omega
  have HLN : Hid ((nodeS x y).length = 32) := sha_len _
  have HSS : Hid (∀ wb : World, Row wb b2 (bcells x) 25 → wb = wb) := fun _ _ => rfl
  clear h0 hb3 bd HSS
  generalize hE : nodeS x y = E at *
  have HEE := hid hE
  clear hE
  refine wp_region_last (S := fun w' => Row w' b2 (bcells x) 25 ∧ Row w' w.heap.size (bcells z32) 25 ∧ w'.cell? ⟨pO, 0, none⟩ = some (.func (.func fo) #[] #[c0, c1])) (N := 6) (by kernel_rfl) (by kernel_rfl) fun hNW => ?_
  have hHeld := (show (fun w' => Row w' b2 (bcells x) 25 ∧ Row w' w.heap.size (bcells z32) 25 ∧ w'.cell? ⟨pO, 0, none⟩ = some (.func (.func fo) #[] #[c0, c1])) w3.drew from ⟨HR10.out, HR8.out, HU3.out.o⟩)
  refine wpAnyF_take (i := 0) (oi := { dst := some 30, op := Go.Op.load 25 (Go.Operand.tmp 10), type := 25, pos := "tree.go:32", after := #[], guard := none }) (v := .agg (bcells x).toArray) hNW (by decide) rfl (by kernel_rfl) (by kernel_rfl) (by kernel_rfl) (by kernel_rfl) (fun _ _ _ h => h) (Or.inl ⟨by kernel_rfl, ?h601_0⟩) (by assumption) ?r601_0
  case h601_0 => (intro wt hSw; exact exec_load (hSw.1.load 25 _ Tryd.underlying25 rfl (by rw [bcells_len, HX.out]; exact I73.out)) rfl rfl)
  simp only [Act.put, List.setIfInBounds_toArray, List.set_cons_zero, List.set_cons_succ]
  refine wpAnyF_take (i := 1) (oi := { dst := some 31, op := Go.Op.load 76 (Go.Operand.tmp 5), type := 76, pos := "tree.go:32", after := #[], guard := none }) (v := .func (.func fo) #[] #[c0, c1]) hNW (by decide) rfl (by kernel_rfl) (by kernel_rfl) (by kernel_rfl) (by kernel_rfl) (fun _ _ _ h => h) (Or.inl ⟨by kernel_rfl, ?h601_1⟩) (by assumption) ?r601_1
  case h601_1 => (intro wt hSw; (try dsimp only at hSw); go_simp; try with_reducible rfl)
  simp only [Act.put, List.setIfInBounds_toArray, List.set_cons_zero, List.set_cons_succ]
  refine wpAnyF_take (i := 2) (oi := { dst := some 32, op := Go.Op.move (Go.Operand.tmp 9), type := 3, pos := "tree.go:32", after := #[], guard := none }) (v := ?v601_2) hNW (by decide) rfl (by kernel_rfl) (by kernel_rfl) (by kernel_rfl) (by kernel_rfl) (fun _ _ _ h => h) (Or.inl ⟨by kernel_rfl, ?h601_2⟩) (by assumption) ?r601_2
  case h601_2 => (intro wt hSw; (try dsimp only at hSw); go_simp; try with_reducible rfl)
  simp only [Act.put, List.setIfInBounds_toArray, List.set_cons_zero, List.set_cons_succ]
  refine wpAnyF_take (i := 3) (oi := { dst := some 33, op := Go.Op.move (Go.Operand.tmp 1), type := 3, pos := "tree.go:32", after := #[], guard := none }) (v := ?v601_3) hNW (by decide) rfl (by kernel_rfl) (by kernel_rfl) (by kernel_rfl) (by kernel_rfl) (fun _ _ _ h => h) (Or.inl ⟨by kernel_rfl, ?h601_3⟩) (by assumption) ?r601_3
  case h601_3 => (intro wt hSw; (try dsimp only at hSw); go_simp; try with_reducible rfl)
  simp only [Act.put, List.setIfInBounds_toArray, List.set_cons_zero, List.set_cons_succ]
  refine wpAnyF_one (i := 4) (o := { dst := some 34, op := Go.Op.call { callee := Go.Callee.value (Go.Operand.tmp 31), args := #[Go.Operand.tmp 32, Go.Operand.tmp 33], argTypes := #[3, 3] }, type := 25, pos := "tree.go:32", after := #[{ on := 1, ground := Go.Ground.data }, { on := 2, ground := Go.Ground.data }, { on := 3, ground := Go.Ground.data }], guard := none }) rfl rfl (by kernel_rfl) ?_
  refine step_callx (f := fo) (args := #[.int .i64 ((lo : Int) + m), .int .i64 (hi : Int), c0, c1]) (by first | (go_simp; done) | (go_simp; exact eg _ _)) HC4.out ?_
  rintro v4 w4 ⟨rfl, hf4, hg4⟩
  have hr4 : Row w4 b2 (bcells x) 25 ∧ Row w4 w.heap.size (bcells z32) 25 ∧ w4.cell? ⟨pO, 0, none⟩ = some (.func (.func fo) #[] #[c0, c1]) := ⟨hf4.row HR10.out (HSO.out _ HBB.out), hf4.row HR8.out (HSO.out _ (Nat.le_refl _)), hf4.cell HU3.out.o HNS.out.2.2.2.2⟩
  have hF4 : Fr S w w4 := HF3.out.trans hf4 fun x hx => Or.inl hx
  have hU4 := HU3.out.fr hf4 HNS.out.1 HNS.out.2.1 HNS.out.2.2.1 HNS.out.2.2.2.1 HNS.out.2.2.2.2
  refine ⟨fun _ => hr4, ?_⟩
  simp only [Act.put, List.setIfInBounds_toArray, List.set_cons_zero, List.set_cons_succ]
  refine wpAnyF_one (i := 5) (o := { dst := some 35, op := Go.Op.call { callee := Go.Callee.value (Go.Operand.func 76), args := #[Go.Operand.tmp 30, Go.Operand.tmp 34], argTypes := #[25, 25] }, type := 25, pos := "tree.go:32", after := #[{ on := 0, ground := Go.Ground.data }, { on := 4, ground := Go.Ground.data }, { on := 4, ground := Go.Ground.chain }], guard := none }) rfl rfl (by kernel_rfl) ?_
  refine step_callx (f := 76) (args := #[.agg (bcells x).toArray, .agg (bcells y).toArray]) (G := fun v w' => v = .agg (bcells E).toArray ∧ Below w4.heap.size w4 w') (by first | kernel_rfl | go_simp) ((node_any HX.out HY.out hU4.kt hU4.sz).mono (by rintro e w' ⟨rfl, hb⟩; exact ⟨_, rfl, by rw [HEE.out], hb⟩)) ?_
  rintro v5 w5 ⟨rfl, hb5⟩
  have hr5 : Row w5 b2 (bcells x) 25 ∧ Row w5 w.heap.size (bcells z32) 25 ∧ w5.cell? ⟨pO, 0, none⟩ = some (.func (.func fo) #[] #[c0, c1]) := ⟨hr4.1.kept hb5 hr4.1.lt, hr4.2.1.kept hb5 hr4.2.1.lt, cell_kept hb5 hr4.2.2⟩
  have hF5 : Fr S w w5 := hF4.trans (Fr.of_below (S := S) hb5 (Nat.le_refl _)) fun x hx => Or.inl hx
  have hg5 := HG.out _ _ hg4 (Fr.of_below hb5 (Nat.le_refl _))
  refine ⟨fun _ => hr5, ?_⟩
  simp only [Act.put, List.setIfInBounds_toArray, List.set_cons_zero, List.set_cons_succ]
  refine wpAnyF_one (i := 6) (o := { dst := none, op := Go.Op.store 25 (Go.Operand.tmp 8) (Go.Operand.tmp 35), type := 0, pos := "tree.go:32", after := #[{ on := 5, ground := Go.Ground.data }, { on := 5, ground := Go.Ground.chain }, { on := 0, ground := Go.Ground.phase }, { on := 1, ground := Go.Ground.phase }, { on := 2, ground := Go.Ground.phase }, { on := 3, ground := Go.Ground.phase }, { on := 4, ground := Go.Ground.phase }, { on := 5, ground := Go.Ground.phase }], guard := none }) rfl rfl (by kernel_rfl) ?_
  refine step_storeA (g := w.heap.size) (c := bcells z32) (c' := bcells E) hr5.2.1 rfl rfl rfl (by rw [bcells_len, bcells_len, HLN.out]; rfl) (bcells_one _) (by rw [bcells_len, HLN.out]; exact I73.out) ?_
  refine ⟨fun h => absurd rfl h, ?_⟩
  simp only [Act.put]
  refine wpAnyF_done (by kernel_rfl) ?_ _
  have R : Row (w5.setRow w.heap.size (bcells E).toArray) w.heap.size (bcells E) 25 := hr5.2.1.row _
  have hfin : Below w.heap.size w5 (w5.setRow w.heap.size (bcells E).toArray) := Go.below_setRow (Below.refl _ _) (Nat.le_refl _) _
  have hFr : Fr S w (w5.setRow w.heap.size (bcells E).toArray) := by
    have k1 : Fr (fun k => w.heap.size ≤ k) w5 (w5.setRow w.heap.size (bcells E).toArray) := ⟨hfin.os, hfin.tape, hfin.output, hfin.size, fun k hk hs => hfin.block k (by omega)⟩
    exact (hF5.trans k1 fun x hx => Or.inr hx)
  have HGF : G (w5.setRow w.heap.size (bcells E).toArray) := HG.out _ _ hg5 ⟨hfin.os, hfin.tape, hfin.output, hfin.size, fun k hk hs => hfin.block k (by omega)⟩
  clear hNW hHeld
  go_wp2_with fail
  exact bodyPost_ret (v := .agg (bcells E).toArray) (R.result Tryd.results74 _ rfl _ Tryd.underlying25 rfl (by rw [bcells_len, HLN.out]; exact I73.out)) rfl ⟨by rw [HEE.out], hFr, HGF⟩
set_option maxHeartbeats 2000000 in
theorem up_right2 {w : World} {pF pI pU pO i lo m hi : Nat} {f x y : List (BitVec 8)} {fo : FuncId} {c0 c1 : Value} {S : Nat → Prop} {J G : World → Prop} (h : UpAt w pF pI pU pO f i (.func (.func fo) #[] #[c0, c1])) (hx : x.length = 32) (hy : y.length = 32) (hhi : hi ≤ 4611686018427387904) (hlo : lo + 2 ≤ hi) (hm : splitN (hi - lo) = m) (him : lo + m ≤ i)
    (h1 : ¬ S 1) (hF : ¬ S pF) (hI : ¬ S pI) (hU : ¬ S pU) (hO : ¬ S pO) (hS : ∀ k, S k → k < w.heap.size)
    (eg : ∀ args w, (callFunc fo args).run Tryd.prog w = .ok (.enter fo args) w)
    (hup : ∀ wa, Below w.heap.size w wa → Calls Tryd.prog 74 #[.int .i64 ((lo : Int) + m), .int .i64 (hi : Int), .pointer (some ⟨pF, 0, none⟩), .pointer (some ⟨pI, 0, none⟩), .pointer (some ⟨pU, 0, none⟩), .pointer (some ⟨pO, 0, none⟩)] wa fun e w' => e = .returned (.agg (bcells x).toArray) ∧ Fr S wa w' ∧ J w')
    (hot : ∀ wb, J wb → Fr S w wb → Calls Tryd.prog fo #[.int .i64 (lo : Int), .int .i64 ((lo : Int) + m), c0, c1] wb fun e w' => ∃ v, e = .returned v ∧ v = .agg (bcells y).toArray ∧ Fr S wb w' ∧ G w')
    (hJ : ∀ w1 w2, J w1 → Fr (fun k => w.heap.size ≤ k) w1 w2 → J w2) (hG : ∀ w1 w2, G w1 → Fr (fun k => w.heap.size ≤ k) w1 w2 → G w2) :
    Calls Tryd.prog 74 #[.int .i64 (lo : Int), .int .i64 (hi : Int), .pointer (some ⟨pF, 0, none⟩), .pointer (some ⟨pI, 0, none⟩), .pointer (some ⟨pU, 0, none⟩), .pointer (some ⟨pO, 0, none⟩)] w fun e w' => e = .returned (.agg (bcells (nodeS y x)).toArray) ∧ Fr S w w' ∧ G w' := by
  have H := hid h
  have HX := hid hx
  have HY := hid hy
  have I73 := hid i44
  have HNS := hid (And.intro h1 (And.intro hF (And.intro hI (And.intro hU hO))))
  have HS := hid hS
  have HUP := hid hup
  have HOT := hid hot
  have HJ := hid hJ
  have HG := hid hG
  obtain ⟨s1, s2, s3, -, -⟩ := splitN_bd (n := hi - lo) (by omega) (by omega)
  have HSP : Hid (∀ w, Calls Tryd.prog 75 #[.int .i64 ((hi : Int) - lo)] w fun e w' => e = .returned (.int .i64 (m : Int)) ∧ w' = w) := fun w => by
    have := split_any (n := hi - lo) w (by omega) (by omega)
    rw [hm, show ((hi - lo : Nat) : Int) = (hi : Int) - lo by omega] at this
    exact this
  rw [hm] at s1 s2 s3
  have q1 : (hi : Int) ≤ 4611686018427387904 := by omega
  have q2 : (lo : Int) + 2 ≤ hi := by omega
  have q3 : (m : Int) < (hi : Int) - lo := by omega
  have q4 : ¬ ((i : Int) < (lo : Int) + m) := by omega
  have q5 : ¬ ((hi : Int) - lo = 1) := by omega
  clear h hx hy h1 hF hI hU hO hS hup hot hJ hG hm s1 s2 s3 him hlo hhi
  go_enter Tryd.func74, Tryd.ntmps74
  go_upto_region 1 with (fail)
  refine wp_world fun wa HW => ?_
  have HRr : Hid (Row wa w.heap.size (bcells z32) 25) := by show Row _ _ _ _; rw [HW.out]; exact Row.new' _ _ _ _ _ rfl rfl
  have HBa : Hid (Below w.heap.size w wa) := by show Below _ _ _; rw [HW.out]; exact (Below.refl _ _).alloc (Nat.le_refl _) _
  have HSz : Hid (wa.heap.size = w.heap.size + 1) := by show _ = _; rw [HW.out]; simp
  clear HW
  have HUa := hid (H.out.kept HBa.out)
  have u1 := HUa.out.i
  have u2 := HUa.out.u
  have HC := hid (HUP.out wa HBa.out)
  have HFa : Hid (Fr S w wa) := hid (Fr.of_below HBa.out (Nat.le_refl _))
  have HSb : Hid (∀ k, ¬ S (w.heap.size + k)) := fun k hk => by have := HS.out _ hk; omega
  go_wp2_with (first
    | (go_at_call 75; refine (HSP.out _).mono ?_; rintro e w' ⟨rfl, hw'⟩; rw [hw']; clear hw' w')
    | (go_at_call 74; refine Calls.mono HC.out ?_; rintro e w2 ⟨rfl, hb2⟩
       have HB2 := hid hb2
       have HR2 : Hid (Row w2 w.heap.size (bcells z32) 25) := hid (hb2.1.row HRr.out (HSb.out 0))
       have HF2 : Hid (Fr S w w2) := hid (HFa.out.trans hb2.1 fun x hx => Or.inl hx)
       have HZ2 : Hid (w.heap.size + 1 ≤ w2.heap.size) := by show _ ≤ _; have := hb2.1.size; rw [HSz.out] at this; exact this
       obtain ⟨b2, eb2⟩ : ∃ b, w2.heap.size = b := ⟨_, rfl⟩
       have HE2 := hid eb2
       have HN2 : Hid (Row (w2.alloc (.cells (bcells z32).toArray 25)) b2 (bcells z32) 25) := by show Row _ _ _ _; rw [← eb2]; exact Row.new _ _ _
       clear hb2 eb2)
    | (show wpList _ _ _ (Oper.mk none (.store 25 (.tmp 11) (.tmp 39)) _ _ _ _ :: _) _ _; rw [HE2.out]; refine HN2.out.wpStore' 25 (.tmp 11) (.tmp 39) (bcells x) rfl rfl rfl rfl (by rw [bcells_len, bcells_len, HX.out]; rfl) (bcells_one _) (by rw [bcells_len, HX.out]; exact I73.out) ?_; intro w3 HZ))
  have h0 := HZ.out
  have hb3 : Below w2.heap.size w2 w3 := by rw [h0]; exact Go.below_setRow (below_new w2 _) (by rw [HE2.out]; exact Nat.le_refl _) _
  have HR10 : Hid (Row w3.drew b2 (bcells x) 25) := by have : Row w3 b2 (bcells x) 25 := by { rw [h0]; exact HN2.out.row _ }; exact ⟨this.at_⟩
  have HR8 : Hid (Row w3.drew w.heap.size (bcells z32) 25) := ⟨((HR2.out.kept hb3 HR2.out.lt)).at_⟩
  have bd : Below w3.heap.size w3 w3.drew := ⟨rfl, rfl, rfl, Nat.le_refl _, fun _ _ => rfl⟩
  have HF3 : Hid (Fr S w w3.drew) := hid ((HF2.out.trans (Fr.of_below (S := S) hb3 (Nat.le_refl _)) fun x hx => Or.inl hx).trans (Fr.of_below (S := S) bd (Nat.le_refl _)) fun x hx => Or.inl hx)
  have HU3 := hid (H.out.fr HF3.out HNS.out.1 HNS.out.2.1 HNS.out.2.2.1 HNS.out.2.2.2.1 HNS.out.2.2.2.2)
  have HC4 := hid (HOT.out w3.drew (HJ.out _ _ (HJ.out _ _ HB2.out.2 (Fr.of_below hb3 (Nat.le_refl _))) (Fr.of_below bd (Nat.le_refl _))) HF3.out)
  have HSO : Hid (∀ k, w.heap.size ≤ k → ¬ S k) := fun k hk hs => by have := HS.out _ hs; omega
  have HBB : Hid (w.heap.size ≤ b2) := by show _ ≤ _; have := HZ2.out; rw [HE2.out] at this; omega
  have HLN : Hid ((nodeS y x).length = 32) := sha_len _
  have HSS : Hid (∀ wb : World, Row wb b2 (bcells x) 25 → wb = wb) := fun _ _ => rfl
  clear h0 hb3 bd HSS
  generalize hE : nodeS y x = E at *
  have HEE := hid hE
  clear hE
  refine wp_region_last (S := fun w' => Row w' b2 (bcells x) 25 ∧ Row w' w.heap.size (bcells z32) 25 ∧ w'.cell? ⟨pO, 0, none⟩ = some (.func (.func fo) #[] #[c0, c1])) (N := 6) (by kernel_rfl) (by kernel_rfl) fun hNW => ?_
  have hHeld := (show (fun w' => Row w' b2 (bcells x) 25 ∧ Row w' w.heap.size (bcells z32) 25 ∧ w'.cell? ⟨pO, 0, none⟩ = some (.func (.func fo) #[] #[c0, c1])) w3.drew from ⟨HR10.out, HR8.out, HU3.out.o⟩)
  refine wpAnyF_take (i := 0) (oi := { dst := some 40, op := Go.Op.load 76 (Go.Operand.tmp 5), type := 76, pos := "tree.go:35", after := #[], guard := none }) (v := .func (.func fo) #[] #[c0, c1]) hNW (by decide) rfl (by kernel_rfl) (by kernel_rfl) (by kernel_rfl) (by kernel_rfl) (fun _ _ _ h => h) (Or.inl ⟨by kernel_rfl, ?h601_0⟩) (by assumption) ?r601_0
  case h601_0 => (intro wt hSw; (try dsimp only at hSw); go_simp; try with_reducible rfl)
  simp only [Act.put, List.setIfInBounds_toArray, List.set_cons_zero, List.set_cons_succ]
  refine wpAnyF_take (i := 1) (oi := { dst := some 41, op := Go.Op.move (Go.Operand.tmp 0), type := 3, pos := "tree.go:35", after := #[], guard := none }) (v := ?v601_1) hNW (by decide) rfl (by kernel_rfl) (by kernel_rfl) (by kernel_rfl) (by kernel_rfl) (fun _ _ _ h => h) (Or.inl ⟨by kernel_rfl, ?h601_1⟩) (by assumption) ?r601_1
  case h601_1 => (intro wt hSw; (try dsimp only at hSw); go_simp; try with_reducible rfl)
  simp only [Act.put, List.setIfInBounds_toArray, List.set_cons_zero, List.set_cons_succ]
  refine wpAnyF_take (i := 2) (oi := { dst := some 42, op := Go.Op.move (Go.Operand.tmp 9), type := 3, pos := "tree.go:35", after := #[], guard := none }) (v := ?v601_2) hNW (by decide) rfl (by kernel_rfl) (by kernel_rfl) (by kernel_rfl) (by kernel_rfl) (fun _ _ _ h => h) (Or.inl ⟨by kernel_rfl, ?h601_2⟩) (by assumption) ?r601_2
  case h601_2 => (intro wt hSw; (try dsimp only at hSw); go_simp; try with_reducible rfl)
  simp only [Act.put, List.setIfInBounds_toArray, List.set_cons_zero, List.set_cons_succ]
  refine wpAnyF_take (i := 4) (oi := { dst := some 44, op := Go.Op.load 25 (Go.Operand.tmp 11), type := 25, pos := "tree.go:35", after := #[], guard := none }) (v := .agg (bcells x).toArray) hNW (by decide) rfl (by kernel_rfl) (by kernel_rfl) (by kernel_rfl) (by kernel_rfl) (fun _ _ _ h => h) (Or.inl ⟨by kernel_rfl, ?h601_4⟩) (by assumption) ?r601_4
  case h601_4 => (intro wt hSw; exact exec_load (hSw.1.load 25 _ Tryd.underlying25 rfl (by rw [bcells_len, HX.out]; exact I73.out)) rfl rfl)
  simp only [Act.put, List.setIfInBounds_toArray, List.set_cons_zero, List.set_cons_succ]
  refine wpAnyF_one (i := 3) (o := { dst := some 43, op := Go.Op.call { callee := Go.Callee.value (Go.Operand.tmp 40), args := #[Go.Operand.tmp 41, Go.Operand.tmp 42], argTypes := #[3, 3] }, type := 25, pos := "tree.go:35", after := #[{ on := 0, ground := Go.Ground.data }, { on := 1, ground := Go.Ground.data }, { on := 2, ground := Go.Ground.data }], guard := none }) rfl rfl (by kernel_rfl) ?_
  refine step_callx (f := fo) (args := #[.int .i64 (lo : Int), .int .i64 ((lo : Int) + m), c0, c1]) (by first | (go_simp; done) | (go_simp; exact eg _ _)) HC4.out ?_
  rintro v4 w4 ⟨rfl, hf4, hg4⟩
  have hr4 : Row w4 b2 (bcells x) 25 ∧ Row w4 w.heap.size (bcells z32) 25 ∧ w4.cell? ⟨pO, 0, none⟩ = some (.func (.func fo) #[] #[c0, c1]) := ⟨hf4.row HR10.out (HSO.out _ HBB.out), hf4.row HR8.out (HSO.out _ (Nat.le_refl _)), hf4.cell HU3.out.o HNS.out.2.2.2.2⟩
  have hF4 : Fr S w w4 := HF3.out.trans hf4 fun x hx => Or.inl hx
  have hU4 := HU3.out.fr hf4 HNS.out.1 HNS.out.2.1 HNS.out.2.2.1 HNS.out.2.2.2.1 HNS.out.2.2.2.2
  refine ⟨fun _ => hr4, ?_⟩
  simp only [Act.put, List.setIfInBounds_toArray, List.set_cons_zero, List.set_cons_succ]
  refine wpAnyF_one (i := 5) (o := { dst := some 45, op := Go.Op.call { callee := Go.Callee.value (Go.Operand.func 76), args := #[Go.Operand.tmp 43, Go.Operand.tmp 44], argTypes := #[25, 25] }, type := 25, pos := "tree.go:35", after := #[{ on := 3, ground := Go.Ground.data }, { on := 4, ground := Go.Ground.data }, { on := 3, ground := Go.Ground.chain }], guard := none }) rfl rfl (by kernel_rfl) ?_
  refine step_callx (f := 76) (args := #[.agg (bcells y).toArray, .agg (bcells x).toArray]) (G := fun v w' => v = .agg (bcells E).toArray ∧ Below w4.heap.size w4 w') (by first | kernel_rfl | go_simp) ((node_any HY.out HX.out hU4.kt hU4.sz).mono (by rintro e w' ⟨rfl, hb⟩; exact ⟨_, rfl, by rw [HEE.out], hb⟩)) ?_
  rintro v5 w5 ⟨rfl, hb5⟩
  have hr5 : Row w5 b2 (bcells x) 25 ∧ Row w5 w.heap.size (bcells z32) 25 ∧ w5.cell? ⟨pO, 0, none⟩ = some (.func (.func fo) #[] #[c0, c1]) := ⟨hr4.1.kept hb5 hr4.1.lt, hr4.2.1.kept hb5 hr4.2.1.lt, cell_kept hb5 hr4.2.2⟩
  have hF5 : Fr S w w5 := hF4.trans (Fr.of_below (S := S) hb5 (Nat.le_refl _)) fun x hx => Or.inl hx
  have hg5 := HG.out _ _ hg4 (Fr.of_below hb5 (Nat.le_refl _))
  refine ⟨fun _ => hr5, ?_⟩
  simp only [Act.put, List.setIfInBounds_toArray, List.set_cons_zero, List.set_cons_succ]
  refine wpAnyF_one (i := 6) (o := { dst := none, op := Go.Op.store 25 (Go.Operand.tmp 8) (Go.Operand.tmp 45), type := 0, pos := "tree.go:35", after := #[{ on := 5, ground := Go.Ground.data }, { on := 5, ground := Go.Ground.chain }, { on := 0, ground := Go.Ground.phase }, { on := 1, ground := Go.Ground.phase }, { on := 2, ground := Go.Ground.phase }, { on := 3, ground := Go.Ground.phase }, { on := 4, ground := Go.Ground.phase }, { on := 5, ground := Go.Ground.phase }], guard := none }) rfl rfl (by kernel_rfl) ?_
  refine step_storeA (g := w.heap.size) (c := bcells z32) (c' := bcells E) hr5.2.1 rfl rfl rfl (by rw [bcells_len, bcells_len, HLN.out]; rfl) (bcells_one _) (by rw [bcells_len, HLN.out]; exact I73.out) ?_
  refine ⟨fun h => absurd rfl h, ?_⟩
  simp only [Act.put]
  refine wpAnyF_done (by kernel_rfl) ?_ _
  have R : Row (w5.setRow w.heap.size (bcells E).toArray) w.heap.size (bcells E) 25 := hr5.2.1.row _
  have hfin : Below w.heap.size w5 (w5.setRow w.heap.size (bcells E).toArray) := Go.below_setRow (Below.refl _ _) (Nat.le_refl _) _
  have hFr : Fr S w (w5.setRow w.heap.size (bcells E).toArray) := by
    have k1 : Fr (fun k => w.heap.size ≤ k) w5 (w5.setRow w.heap.size (bcells E).toArray) := ⟨hfin.os, hfin.tape, hfin.output, hfin.size, fun k hk hs => hfin.block k (by omega)⟩
    exact (hF5.trans k1 fun x hx => Or.inr hx)
  have HGF : G (w5.setRow w.heap.size (bcells E).toArray) := HG.out _ _ hg5 ⟨hfin.os, hfin.tape, hfin.output, hfin.size, fun k hk hs => hfin.block k (by omega)⟩
  clear hNW hHeld
  go_wp2_with fail
  exact bodyPost_ret (v := .agg (bcells E).toArray) (R.result Tryd.results74 _ rfl _ Tryd.underlying25 rfl (by rw [bcells_len, HLN.out]; exact I73.out)) rfl ⟨by rw [HEE.out], hFr, HGF⟩
end Go.Proofs.YtaklbofbhanjgaaDoor
namespace Go.Proofs.YtaklbofbhanjgaaDoor
open Go.RowKit
set_option maxRecDepth 100000
set_option maxHeartbeats 2000000 in
theorem up_left1 {w : World} {pF pI pU pO i lo m hi : Nat} {f x y : List (BitVec 8)} {fo : FuncId} {c0 : Value} {S : Nat → Prop} {J G : World → Prop} (h : UpAt w pF pI pU pO f i (.func (.func fo) #[c0] #[])) (hx : x.length = 32) (hy : y.length = 32) (hhi : hi ≤ 4611686018427387904) (hlo : lo + 2 ≤ hi) (hm : splitN (hi - lo) = m) (him : i < lo + m)
    (h1 : ¬ S 1) (hF : ¬ S pF) (hI : ¬ S pI) (hU : ¬ S pU) (hO : ¬ S pO) (hS : ∀ k, S k → k < w.heap.size)
    (eg : ∀ args w, (callFunc fo args).run Tryd.prog w = .ok (.enter fo args) w)
    (hup : ∀ wa, Below w.heap.size w wa → Calls Tryd.prog 74 #[.int .i64 (lo : Int), .int .i64 ((lo : Int) + m), .pointer (some ⟨pF, 0, none⟩), .pointer (some ⟨pI, 0, none⟩), .pointer (some ⟨pU, 0, none⟩), .pointer (some ⟨pO, 0, none⟩)] wa fun e w' => e = .returned (.agg (bcells x).toArray) ∧ Fr S wa w' ∧ J w')
    (hot : ∀ wb, J wb → Fr S w wb → Calls Tryd.prog fo #[c0, .int .i64 ((lo : Int) + m), .int .i64 (hi : Int)] wb fun e w' => ∃ v, e = .returned v ∧ v = .agg (bcells y).toArray ∧ Fr S wb w' ∧ G w')
    (hJ : ∀ w1 w2, J w1 → Fr (fun k => w.heap.size ≤ k) w1 w2 → J w2) (hG : ∀ w1 w2, G w1 → Fr (fun k => w.heap.size ≤ k) w1 w2 → G w2) :
    Calls Tryd.prog 74 #[.int .i64 (lo : Int), .int .i64 (hi : Int), .pointer (some ⟨pF, 0, none⟩), .pointer (some ⟨pI, 0, none⟩), .pointer (some ⟨pU, 0, none⟩), .pointer (some ⟨pO, 0, none⟩)] w fun e w' => e = .returned (.agg (bcells (nodeS x y)).toArray) ∧ Fr S w w' ∧ G w' := by
  have H := hid h
  have HX := hid hx
  have HY := hid hy
  have I73 := hid i44
  have HNS := hid (And.intro h1 (And.intro hF (And.intro hI (And.intro hU hO))))
  have HS := hid hS
  have HUP := hid hup
  have HOT := hid hot
  have HJ := hid hJ
  have HG := hid hG
  obtain ⟨s1, s2, s3, -, -⟩ := splitN_bd (n := hi - lo) (by omega) (by omega)
  have HSP : Hid (∀ w, Calls Tryd.prog 75 #[.int .i64 ((hi : Int) - lo)] w fun e w' => e = .returned (.int .i64 (m : Int)) ∧ w' = w) := fun w => by
    have := split_any (n := hi - lo) w (by omega) (by omega)
    rw [hm, show ((hi - lo : Nat) : Int) = (hi : Int) - lo by omega] at this
    exact this
  rw [hm] at s1 s2 s3
  have q1 : (hi : Int) ≤ 4611686018427387904 := by omega
  have q2 : (lo : Int) + 2 ≤ hi := by omega
  have q3 : (m : Int) < (hi : Int) - lo := by omega
  have q4 : (i : Int) < (lo : Int) + m := by omega
  have q5 : ¬ ((hi : Int) - lo = 1) := by omega
  clear h hx hy h1 hF hI hU hO hS hup hot hJ hG hm s1 s2 s3 him hlo hhi
  go_enter Tryd.func74, Tryd.ntmps74
  go_upto_region 1 with (fail)
  refine wp_world fun wa HW => ?_
  have HRr : Hid (Row wa w.heap.size (bcells z32) 25) := by show Row _ _ _ _; rw [HW.out]; exact Row.new' _ _ _ _ _ rfl rfl
  have HBa : Hid (Below w.heap.size w wa) := by show Below _ _ _; rw [HW.out]; exact (Below.refl _ _).alloc (Nat.le_refl _) _
  have HSz : Hid (wa.heap.size = w.heap.size + 1) := by show _ = _; rw [HW.out]; simp
  clear HW
  have HUa := hid (H.out.kept HBa.out)
  have u1 := HUa.out.i
  have u2 := HUa.out.u
  have HC := hid (HUP.out wa HBa.out)
  have HFa : Hid (Fr S w wa) := hid (Fr.of_below HBa.out (Nat.le_refl _))
  have HSb : Hid (∀ k, ¬ S (w.heap.size + k)) := fun k hk => by have := HS.out _ hk; omega
  go_wp2_with (first
    | (go_at_call 75; refine (HSP.out _).mono ?_; rintro e w' ⟨rfl, hw'⟩; rw [hw']; clear hw' w')
    | (go_at_call 74; refine Calls.mono HC.out ?_; rintro e w2 ⟨rfl, hb2⟩
       have HB2 := hid hb2
       have HR2 : Hid (Row w2 w.heap.size (bcells z32) 25) := hid (hb2.1.row HRr.out (HSb.out 0))
       have HF2 : Hid (Fr S w w2) := hid (HFa.out.trans hb2.1 fun x hx => Or.inl hx)
       have HZ2 : Hid (w.heap.size + 1 ≤ w2.heap.size) := by show _ ≤ _; have := hb2.1.size; rw [HSz.out] at this; exact this
       obtain ⟨b2, eb2⟩ : ∃ b, w2.heap.size = b := ⟨_, rfl⟩
       have HE2 := hid eb2
       have HN2 : Hid (Row (w2.alloc (.cells (bcells z32).toArray 25)) b2 (bcells z32) 25) := by show Row _ _ _ _; rw [← eb2]; exact Row.new _ _ _
       clear hb2 eb2)
    | (show wpList _ _ _ (Oper.mk none (.store 25 (.tmp 10) (.tmp 29)) _ _ _ _ :: _) _ _; rw [HE2.out]; refine HN2.out.wpStore' 25 (.tmp 10) (.tmp 29) (bcells x) rfl rfl rfl rfl (by rw [bcells_len, bcells_len, HX.out]; rfl) (bcells_one _) (by rw [bcells_len, HX.out]; exact I73.out) ?_; intro w3 HZ))
  have h0 := HZ.out
  have hb3 : Below w2.heap.size w2 w3 := by rw [h0]; exact Go.below_setRow (below_new w2 _) (by rw [HE2.out]; exact Nat.le_refl _) _
  have HR10 : Hid (Row w3.drew b2 (bcells x) 25) := by have : Row w3 b2 (bcells x) 25 := by { rw [h0]; exact HN2.out.row _ }; exact ⟨this.at_⟩
  have HR8 : Hid (Row w3.drew w.heap.size (bcells z32) 25) := ⟨((HR2.out.kept hb3 HR2.out.lt)).at_⟩
  have bd : Below w3.heap.size w3 w3.drew := ⟨rfl, rfl, rfl, Nat.le_refl _, fun _ _ => rfl⟩
  have HF3 : Hid (Fr S w w3.drew) := hid ((HF2.out.trans (Fr.of_below (S := S) hb3 (Nat.le_refl _)) fun x hx => Or.inl hx).trans (Fr.of_below (S := S) bd (Nat.le_refl _)) fun x hx => Or.inl hx)
  have HU3 := hid (H.out.fr HF3.out HNS.out.1 HNS.out.2.1 HNS.out.2.2.1 HNS.out.2.2.2.1 HNS.out.2.2.2.2)
  have HC4 := hid (HOT.out w3.drew (HJ.out _ _ (HJ.out _ _ HB2.out.2 (Fr.of_below hb3 (Nat.le_refl _))) (Fr.of_below bd (Nat.le_refl _))) HF3.out)
  have HSO : Hid (∀ k, w.heap.size ≤ k → ¬ S k) := fun k hk hs => by have := HS.out _ hs; omega
  have HBB : Hid (w.heap.size ≤ b2) := by show _ ≤ _; have := HZ2.out; rw [HE2.out] at this; omega
  have HLN : Hid ((nodeS x y).length = 32) := sha_len _
  have HSS : Hid (∀ wb : World, Row wb b2 (bcells x) 25 → wb = wb) := fun _ _ => rfl
  clear h0 hb3 bd HSS
  generalize hE : nodeS x y = E at *
  have HEE := hid hE
  clear hE
  refine wp_region_last (S := fun w' => Row w' b2 (bcells x) 25 ∧ Row w' w.heap.size (bcells z32) 25 ∧ w'.cell? ⟨pO, 0, none⟩ = some (.func (.func fo) #[c0] #[])) (N := 6) (by kernel_rfl) (by kernel_rfl) fun hNW => ?_
  have hHeld := (show (fun w' => Row w' b2 (bcells x) 25 ∧ Row w' w.heap.size (bcells z32) 25 ∧ w'.cell? ⟨pO, 0, none⟩ = some (.func (.func fo) #[c0] #[])) w3.drew from ⟨HR10.out, HR8.out, HU3.out.o⟩)
  refine wpAnyF_take (i := 0) (oi := { dst := some 30, op := Go.Op.load 25 (Go.Operand.tmp 10), type := 25, pos := "tree.go:32", after := #[], guard := none }) (v := .agg (bcells x).toArray) hNW (by decide) rfl (by kernel_rfl) (by kernel_rfl) (by kernel_rfl) (by kernel_rfl) (fun _ _ _ h => h) (Or.inl ⟨by kernel_rfl, ?h601_0⟩) (by assumption) ?r601_0
  case h601_0 => (intro wt hSw; exact exec_load (hSw.1.load 25 _ Tryd.underlying25 rfl (by rw [bcells_len, HX.out]; exact I73.out)) rfl rfl)
  simp only [Act.put, List.setIfInBounds_toArray, List.set_cons_zero, List.set_cons_succ]
  refine wpAnyF_take (i := 1) (oi := { dst := some 31, op := Go.Op.load 76 (Go.Operand.tmp 5), type := 76, pos := "tree.go:32", after := #[], guard := none }) (v := .func (.func fo) #[c0] #[]) hNW (by decide) rfl (by kernel_rfl) (by kernel_rfl) (by kernel_rfl) (by kernel_rfl) (fun _ _ _ h => h) (Or.inl ⟨by kernel_rfl, ?h601_1⟩) (by assumption) ?r601_1
  case h601_1 => (intro wt hSw; (try dsimp only at hSw); go_simp; try with_reducible rfl)
  simp only [Act.put, List.setIfInBounds_toArray, List.set_cons_zero, List.set_cons_succ]
  refine wpAnyF_take (i := 2) (oi := { dst := some 32, op := Go.Op.move (Go.Operand.tmp 9), type := 3, pos := "tree.go:32", after := #[], guard := none }) (v := ?v601_2) hNW (by decide) rfl (by kernel_rfl) (by kernel_rfl) (by kernel_rfl) (by kernel_rfl) (fun _ _ _ h => h) (Or.inl ⟨by kernel_rfl, ?h601_2⟩) (by assumption) ?r601_2
  case h601_2 => (intro wt hSw; (try dsimp only at hSw); go_simp; try with_reducible rfl)
  simp only [Act.put, List.setIfInBounds_toArray, List.set_cons_zero, List.set_cons_succ]
  refine wpAnyF_take (i := 3) (oi := { dst := some 33, op := Go.Op.move (Go.Operand.tmp 1), type := 3, pos := "tree.go:32", after := #[], guard := none }) (v := ?v601_3) hNW (by decide) rfl (by kernel_rfl) (by kernel_rfl) (by kernel_rfl) (by kernel_rfl) (fun _ _ _ h => h) (Or.inl ⟨by kernel_rfl, ?h601_3⟩) (by assumption) ?r601_3
  case h601_3 => (intro wt hSw; (try dsimp only at hSw); go_simp; try with_reducible rfl)
  simp only [Act.put, List.setIfInBounds_toArray, List.set_cons_zero, List.set_cons_succ]
  refine wpAnyF_one (i := 4) (o := { dst := some 34, op := Go.Op.call { callee := Go.Callee.value (Go.Operand.tmp 31), args := #[Go.Operand.tmp 32, Go.Operand.tmp 33], argTypes := #[3, 3] }, type := 25, pos := "tree.go:32", after := #[{ on := 1, ground := Go.Ground.data }, { on := 2, ground := Go.Ground.data }, { on := 3, ground := Go.Ground.data }], guard := none }) rfl rfl (by kernel_rfl) ?_
  refine step_callx (f := fo) (args := #[c0, .int .i64 ((lo : Int) + m), .int .i64 (hi : Int)]) (by first | (go_simp; done) | (go_simp; exact eg _ _)) HC4.out ?_
  rintro v4 w4 ⟨rfl, hf4, hg4⟩
  have hr4 : Row w4 b2 (bcells x) 25 ∧ Row w4 w.heap.size (bcells z32) 25 ∧ w4.cell? ⟨pO, 0, none⟩ = some (.func (.func fo) #[c0] #[]) := ⟨hf4.row HR10.out (HSO.out _ HBB.out), hf4.row HR8.out (HSO.out _ (Nat.le_refl _)), hf4.cell HU3.out.o HNS.out.2.2.2.2⟩
  have hF4 : Fr S w w4 := HF3.out.trans hf4 fun x hx => Or.inl hx
  have hU4 := HU3.out.fr hf4 HNS.out.1 HNS.out.2.1 HNS.out.2.2.1 HNS.out.2.2.2.1 HNS.out.2.2.2.2
  refine ⟨fun _ => hr4, ?_⟩
  simp only [Act.put, List.setIfInBounds_toArray, List.set_cons_zero, List.set_cons_succ]
  refine wpAnyF_one (i := 5) (o := { dst := some 35, op := Go.Op.call { callee := Go.Callee.value (Go.Operand.func 76), args := #[Go.Operand.tmp 30, Go.Operand.tmp 34], argTypes := #[25, 25] }, type := 25, pos := "tree.go:32", after := #[{ on := 0, ground := Go.Ground.data }, { on := 4, ground := Go.Ground.data }, { on := 4, ground := Go.Ground.chain }], guard := none }) rfl rfl (by kernel_rfl) ?_
  refine step_callx (f := 76) (args := #[.agg (bcells x).toArray, .agg (bcells y).toArray]) (G := fun v w' => v = .agg (bcells E).toArray ∧ Below w4.heap.size w4 w') (by first | kernel_rfl | go_simp) ((node_any HX.out HY.out hU4.kt hU4.sz).mono (by rintro e w' ⟨rfl, hb⟩; exact ⟨_, rfl, by rw [HEE.out], hb⟩)) ?_
  rintro v5 w5 ⟨rfl, hb5⟩
  have hr5 : Row w5 b2 (bcells x) 25 ∧ Row w5 w.heap.size (bcells z32) 25 ∧ w5.cell? ⟨pO, 0, none⟩ = some (.func (.func fo) #[c0] #[]) := ⟨hr4.1.kept hb5 hr4.1.lt, hr4.2.1.kept hb5 hr4.2.1.lt, cell_kept hb5 hr4.2.2⟩
  have hF5 : Fr S w w5 := hF4.trans (Fr.of_below (S := S) hb5 (Nat.le_refl _)) fun x hx => Or.inl hx
  have hg5 := HG.out _ _ hg4 (Fr.of_below hb5 (Nat.le_refl _))
  refine ⟨fun _ => hr5, ?_⟩
  simp only [Act.put, List.setIfInBounds_toArray, List.set_cons_zero, List.set_cons_succ]
  refine wpAnyF_one (i := 6) (o := { dst := none, op := Go.Op.store 25 (Go.Operand.tmp 8) (Go.Operand.tmp 35), type := 0, pos := "tree.go:32", after := #[{ on := 5, ground := Go.Ground.data }, { on := 5, ground := Go.Ground.chain }, { on := 0, ground := Go.Ground.phase }, { on := 1, ground := Go.Ground.phase }, { on := 2, ground := Go.Ground.phase }, { on := 3, ground := Go.Ground.phase }, { on := 4, ground := Go.Ground.phase }, { on := 5, ground := Go.Ground.phase }], guard := none }) rfl rfl (by kernel_rfl) ?_
  refine step_storeA (g := w.heap.size) (c := bcells z32) (c' := bcells E) hr5.2.1 rfl rfl rfl (by rw [bcells_len, bcells_len, HLN.out]; rfl) (bcells_one _) (by rw [bcells_len, HLN.out]; exact I73.out) ?_
  refine ⟨fun h => absurd rfl h, ?_⟩
  simp only [Act.put]
  refine wpAnyF_done (by kernel_rfl) ?_ _
  have R : Row (w5.setRow w.heap.size (bcells E).toArray) w.heap.size (bcells E) 25 := hr5.2.1.row _
  have hfin : Below w.heap.size w5 (w5.setRow w.heap.size (bcells E).toArray) := Go.below_setRow (Below.refl _ _) (Nat.le_refl _) _
  have hFr : Fr S w (w5.setRow w.heap.size (bcells E).toArray) := by
    have k1 : Fr (fun k => w.heap.size ≤ k) w5 (w5.setRow w.heap.size (bcells E).toArray) := ⟨hfin.os, hfin.tape, hfin.output, hfin.size, fun k hk hs => hfin.block k (by omega)⟩
    exact (hF5.trans k1 fun x hx => Or.inr hx)
  have HGF : G (w5.setRow w.heap.size (bcells E).toArray) := HG.out _ _ hg5 ⟨hfin.os, hfin.tape, hfin.output, hfin.size, fun k hk hs => hfin.block k (by omega)⟩
  clear hNW hHeld
  go_wp2_with fail
  exact bodyPost_ret (v := .agg (bcells E).toArray) (R.result Tryd.results74 _ rfl _ Tryd.underlying25 rfl (by rw [bcells_len, HLN.out]; exact I73.out)) rfl ⟨by rw [HEE.out], hFr, HGF⟩
set_option maxHeartbeats 2000000 in
theorem up_right1 {w : World} {pF pI pU pO i lo m hi : Nat} {f x y : List (BitVec 8)} {fo : FuncId} {c0 : Value} {S : Nat → Prop} {J G : World → Prop} (h : UpAt w pF pI pU pO f i (.func (.func fo) #[c0] #[])) (hx : x.length = 32) (hy : y.length = 32) (hhi : hi ≤ 4611686018427387904) (hlo : lo + 2 ≤ hi) (hm : splitN (hi - lo) = m) (him : lo + m ≤ i)
    (h1 : ¬ S 1) (hF : ¬ S pF) (hI : ¬ S pI) (hU : ¬ S pU) (hO : ¬ S pO) (hS : ∀ k, S k → k < w.heap.size)
    (eg : ∀ args w, (callFunc fo args).run Tryd.prog w = .ok (.enter fo args) w)
    (hup : ∀ wa, Below w.heap.size w wa → Calls Tryd.prog 74 #[.int .i64 ((lo : Int) + m), .int .i64 (hi : Int), .pointer (some ⟨pF, 0, none⟩), .pointer (some ⟨pI, 0, none⟩), .pointer (some ⟨pU, 0, none⟩), .pointer (some ⟨pO, 0, none⟩)] wa fun e w' => e = .returned (.agg (bcells x).toArray) ∧ Fr S wa w' ∧ J w')
    (hot : ∀ wb, J wb → Fr S w wb → Calls Tryd.prog fo #[c0, .int .i64 (lo : Int), .int .i64 ((lo : Int) + m)] wb fun e w' => ∃ v, e = .returned v ∧ v = .agg (bcells y).toArray ∧ Fr S wb w' ∧ G w')
    (hJ : ∀ w1 w2, J w1 → Fr (fun k => w.heap.size ≤ k) w1 w2 → J w2) (hG : ∀ w1 w2, G w1 → Fr (fun k => w.heap.size ≤ k) w1 w2 → G w2) :
    Calls Tryd.prog 74 #[.int .i64 (lo : Int), .int .i64 (hi : Int), .pointer (some ⟨pF, 0, none⟩), .pointer (some ⟨pI, 0, none⟩), .pointer (some ⟨pU, 0, none⟩), .pointer (some ⟨pO, 0, none⟩)] w fun e w' => e = .returned (.agg (bcells (nodeS y x)).toArray) ∧ Fr S w w' ∧ G w' := by
  have H := hid h
  have HX := hid hx
  have HY := hid hy
  have I73 := hid i44
  have HNS := hid (And.intro h1 (And.intro hF (And.intro hI (And.intro hU hO))))
  have HS := hid hS
  have HUP := hid hup
  have HOT := hid hot
  have HJ := hid hJ
  have HG := hid hG
  obtain ⟨s1, s2, s3, -, -⟩ := splitN_bd (n := hi - lo) (by omega) (by omega)
  have HSP : Hid (∀ w, Calls Tryd.prog 75 #[.int .i64 ((hi : Int) - lo)] w fun e w' => e = .returned (.int .i64 (m : Int)) ∧ w' = w) := fun w => by
    have := split_any (n := hi - lo) w (by omega) (by omega)
    rw [hm, show ((hi - lo : Nat) : Int) = (hi : Int) - lo by omega] at this
    exact this
  rw [hm] at s1 s2 s3
  have q1 : (hi : Int) ≤ 4611686018427387904 := by omega
  have q2 : (lo : Int) + 2 ≤ hi := by omega
  have q3 : (m : Int) < (hi : Int) - lo := by omega
  have q4 : ¬ ((i : Int) < (lo : Int) + m) := by omega
  have q5 : ¬ ((hi : Int) - lo = 1) := by omega
  clear h hx hy h1 hF hI hU hO hS hup hot hJ hG hm s1 s2 s3 him hlo hhi
  go_enter Tryd.func74, Tryd.ntmps74
  go_upto_region 1 with (fail)
  refine wp_world fun wa HW => ?_
  have HRr : Hid (Row wa w.heap.size (bcells z32) 25) := by show Row _ _ _ _; rw [HW.out]; exact Row.new' _ _ _ _ _ rfl rfl
  have HBa : Hid (Below w.heap.size w wa) := by show Below _ _ _; rw [HW.out]; exact (Below.refl _ _).alloc (Nat.le_refl _) _
  have HSz : Hid (wa.heap.size = w.heap.size + 1) := by show _ = _; rw [HW.out]; simp
  clear HW
  have HUa := hid (H.out.kept HBa.out)
  have u1 := HUa.out.i
  have u2 := HUa.out.u
  have HC := hid (HUP.out wa HBa.out)
  have HFa : Hid (Fr S w wa) := hid (Fr.of_below HBa.out (Nat.le_refl _))
  have HSb : Hid (∀ k, ¬ S (w.heap.size + k)) := fun k hk => by have := HS.out _ hk; omega
  go_wp2_with (first
    | (go_at_call 75; refine (HSP.out _).mono ?_; rintro e w' ⟨rfl, hw'⟩; rw [hw']; clear hw' w')
    | (go_at_call 74; refine Calls.mono HC.out ?_; rintro e w2 ⟨rfl, hb2⟩
       have HB2 := hid hb2
       have HR2 : Hid (Row w2 w.heap.size (bcells z32) 25) := hid (hb2.1.row HRr.out (HSb.out 0))
       have HF2 : Hid (Fr S w w2) := hid (HFa.out.trans hb2.1 fun x hx => Or.inl hx)
       have HZ2 : Hid (w.heap.size + 1 ≤ w2.heap.size) := by show _ ≤ _; have := hb2.1.size; rw [HSz.out] at this; exact this
       obtain ⟨b2, eb2⟩ : ∃ b, w2.heap.size = b := ⟨_, rfl⟩
       have HE2 := hid eb2
       have HN2 : Hid (Row (w2.alloc (.cells (bcells z32).toArray 25)) b2 (bcells z32) 25) := by show Row _ _ _ _; rw [← eb2]; exact Row.new _ _ _
       clear hb2 eb2)
    | (show wpList _ _ _ (Oper.mk none (.store 25 (.tmp 11) (.tmp 39)) _ _ _ _ :: _) _ _; rw [HE2.out]; refine HN2.out.wpStore' 25 (.tmp 11) (.tmp 39) (bcells x) rfl rfl rfl rfl (by rw [bcells_len, bcells_len, HX.out]; rfl) (bcells_one _) (by rw [bcells_len, HX.out]; exact I73.out) ?_; intro w3 HZ))
  have h0 := HZ.out
  have hb3 : Below w2.heap.size w2 w3 := by rw [h0]; exact Go.below_setRow (below_new w2 _) (by rw [HE2.out]; exact Nat.le_refl _) _
  have HR10 : Hid (Row w3.drew b2 (bcells x) 25) := by have : Row w3 b2 (bcells x) 25 := by { rw [h0]; exact HN2.out.row _ }; exact ⟨this.at_⟩
  have HR8 : Hid (Row w3.drew w.heap.size (bcells z32) 25) := ⟨((HR2.out.kept hb3 HR2.out.lt)).at_⟩
  have bd : Below w3.heap.size w3 w3.drew := ⟨rfl, rfl, rfl, Nat.le_refl _, fun _ _ => rfl⟩
  have HF3 : Hid (Fr S w w3.drew) := hid ((HF2.out.trans (Fr.of_below (S := S) hb3 (Nat.le_refl _)) fun x hx => Or.inl hx).trans (Fr.of_below (S := S) bd (Nat.le_refl _)) fun x hx => Or.inl hx)
  have HU3 := hid (H.out.fr HF3.out HNS.out.1 HNS.out.2.1 HNS.out.2.2.1 HNS.out.2.2.2.1 HNS.out.2.2.2.2)
  have HC4 := hid (HOT.out w3.drew (HJ.out _ _ (HJ.out _ _ HB2.out.2 (Fr.of_below hb3 (Nat.le_refl _))) (Fr.of_below bd (Nat.le_refl _))) HF3.out)
  have HSO : Hid (∀ k, w.heap.size ≤ k → ¬ S k) := fun k hk hs => by have := HS.out _ hs; omega
  have HBB : Hid (w.heap.size ≤ b2) := by show _ ≤ _; have := HZ2.out; rw [HE2.out] at this; omega
  have HLN : Hid ((nodeS y x).length = 32) := sha_len _
  have HSS : Hid (∀ wb : World, Row wb b2 (bcells x) 25 → wb = wb) := fun _ _ => rfl
  clear h0 hb3 bd HSS
  generalize hE : nodeS y x = E at *
  have HEE := hid hE
  clear hE
  refine wp_region_last (S := fun w' => Row w' b2 (bcells x) 25 ∧ Row w' w.heap.size (bcells z32) 25 ∧ w'.cell? ⟨pO, 0, none⟩ = some (.func (.func fo) #[c0] #[])) (N := 6) (by kernel_rfl) (by kernel_rfl) fun hNW => ?_
  have hHeld := (show (fun w' => Row w' b2 (bcells x) 25 ∧ Row w' w.heap.size (bcells z32) 25 ∧ w'.cell? ⟨pO, 0, none⟩ = some (.func (.func fo) #[c0] #[])) w3.drew from ⟨HR10.out, HR8.out, HU3.out.o⟩)
  refine wpAnyF_take (i := 0) (oi := { dst := some 40, op := Go.Op.load 76 (Go.Operand.tmp 5), type := 76, pos := "tree.go:35", after := #[], guard := none }) (v := .func (.func fo) #[c0] #[]) hNW (by decide) rfl (by kernel_rfl) (by kernel_rfl) (by kernel_rfl) (by kernel_rfl) (fun _ _ _ h => h) (Or.inl ⟨by kernel_rfl, ?h601_0⟩) (by assumption) ?r601_0
  case h601_0 => (intro wt hSw; (try dsimp only at hSw); go_simp; try with_reducible rfl)
  simp only [Act.put, List.setIfInBounds_toArray, List.set_cons_zero, List.set_cons_succ]
  refine wpAnyF_take (i := 1) (oi := { dst := some 41, op := Go.Op.move (Go.Operand.tmp 0), type := 3, pos := "tree.go:35", after := #[], guard := none }) (v := ?v601_1) hNW (by decide) rfl (by kernel_rfl) (by kernel_rfl) (by kernel_rfl) (by kernel_rfl) (fun _ _ _ h => h) (Or.inl ⟨by kernel_rfl, ?h601_1⟩) (by assumption) ?r601_1
  case h601_1 => (intro wt hSw; (try dsimp only at hSw); go_simp; try with_reducible rfl)
  simp only [Act.put, List.setIfInBounds_toArray, List.set_cons_zero, List.set_cons_succ]
  refine wpAnyF_take (i := 2) (oi := { dst := some 42, op := Go.Op.move (Go.Operand.tmp 9), type := 3, pos := "tree.go:35", after := #[], guard := none }) (v := ?v601_2) hNW (by decide) rfl (by kernel_rfl) (by kernel_rfl) (by kernel_rfl) (by kernel_rfl) (fun _ _ _ h => h) (Or.inl ⟨by kernel_rfl, ?h601_2⟩) (by assumption) ?r601_2
  case h601_2 => (intro wt hSw; (try dsimp only at hSw); go_simp; try with_reducible rfl)
  simp only [Act.put, List.setIfInBounds_toArray, List.set_cons_zero, List.set_cons_succ]
  refine wpAnyF_take (i := 4) (oi := { dst := some 44, op := Go.Op.load 25 (Go.Operand.tmp 11), type := 25, pos := "tree.go:35", after := #[], guard := none }) (v := .agg (bcells x).toArray) hNW (by decide) rfl (by kernel_rfl) (by kernel_rfl) (by kernel_rfl) (by kernel_rfl) (fun _ _ _ h => h) (Or.inl ⟨by kernel_rfl, ?h601_4⟩) (by assumption) ?r601_4
  case h601_4 => (intro wt hSw; exact exec_load (hSw.1.load 25 _ Tryd.underlying25 rfl (by rw [bcells_len, HX.out]; exact I73.out)) rfl rfl)
  simp only [Act.put, List.setIfInBounds_toArray, List.set_cons_zero, List.set_cons_succ]
  refine wpAnyF_one (i := 3) (o := { dst := some 43, op := Go.Op.call { callee := Go.Callee.value (Go.Operand.tmp 40), args := #[Go.Operand.tmp 41, Go.Operand.tmp 42], argTypes := #[3, 3] }, type := 25, pos := "tree.go:35", after := #[{ on := 0, ground := Go.Ground.data }, { on := 1, ground := Go.Ground.data }, { on := 2, ground := Go.Ground.data }], guard := none }) rfl rfl (by kernel_rfl) ?_
  refine step_callx (f := fo) (args := #[c0, .int .i64 (lo : Int), .int .i64 ((lo : Int) + m)]) (by first | (go_simp; done) | (go_simp; exact eg _ _)) HC4.out ?_
  rintro v4 w4 ⟨rfl, hf4, hg4⟩
  have hr4 : Row w4 b2 (bcells x) 25 ∧ Row w4 w.heap.size (bcells z32) 25 ∧ w4.cell? ⟨pO, 0, none⟩ = some (.func (.func fo) #[c0] #[]) := ⟨hf4.row HR10.out (HSO.out _ HBB.out), hf4.row HR8.out (HSO.out _ (Nat.le_refl _)), hf4.cell HU3.out.o HNS.out.2.2.2.2⟩
  have hF4 : Fr S w w4 := HF3.out.trans hf4 fun x hx => Or.inl hx
  have hU4 := HU3.out.fr hf4 HNS.out.1 HNS.out.2.1 HNS.out.2.2.1 HNS.out.2.2.2.1 HNS.out.2.2.2.2
  refine ⟨fun _ => hr4, ?_⟩
  simp only [Act.put, List.setIfInBounds_toArray, List.set_cons_zero, List.set_cons_succ]
  refine wpAnyF_one (i := 5) (o := { dst := some 45, op := Go.Op.call { callee := Go.Callee.value (Go.Operand.func 76), args := #[Go.Operand.tmp 43, Go.Operand.tmp 44], argTypes := #[25, 25] }, type := 25, pos := "tree.go:35", after := #[{ on := 3, ground := Go.Ground.data }, { on := 4, ground := Go.Ground.data }, { on := 3, ground := Go.Ground.chain }], guard := none }) rfl rfl (by kernel_rfl) ?_
  refine step_callx (f := 76) (args := #[.agg (bcells y).toArray, .agg (bcells x).toArray]) (G := fun v w' => v = .agg (bcells E).toArray ∧ Below w4.heap.size w4 w') (by first | kernel_rfl | go_simp) ((node_any HY.out HX.out hU4.kt hU4.sz).mono (by rintro e w' ⟨rfl, hb⟩; exact ⟨_, rfl, by rw [HEE.out], hb⟩)) ?_
  rintro v5 w5 ⟨rfl, hb5⟩
  have hr5 : Row w5 b2 (bcells x) 25 ∧ Row w5 w.heap.size (bcells z32) 25 ∧ w5.cell? ⟨pO, 0, none⟩ = some (.func (.func fo) #[c0] #[]) := ⟨hr4.1.kept hb5 hr4.1.lt, hr4.2.1.kept hb5 hr4.2.1.lt, cell_kept hb5 hr4.2.2⟩
  have hF5 : Fr S w w5 := hF4.trans (Fr.of_below (S := S) hb5 (Nat.le_refl _)) fun x hx => Or.inl hx
  have hg5 := HG.out _ _ hg4 (Fr.of_below hb5 (Nat.le_refl _))
  refine ⟨fun _ => hr5, ?_⟩
  simp only [Act.put, List.setIfInBounds_toArray, List.set_cons_zero, List.set_cons_succ]
  refine wpAnyF_one (i := 6) (o := { dst := none, op := Go.Op.store 25 (Go.Operand.tmp 8) (Go.Operand.tmp 45), type := 0, pos := "tree.go:35", after := #[{ on := 5, ground := Go.Ground.data }, { on := 5, ground := Go.Ground.chain }, { on := 0, ground := Go.Ground.phase }, { on := 1, ground := Go.Ground.phase }, { on := 2, ground := Go.Ground.phase }, { on := 3, ground := Go.Ground.phase }, { on := 4, ground := Go.Ground.phase }, { on := 5, ground := Go.Ground.phase }], guard := none }) rfl rfl (by kernel_rfl) ?_
  refine step_storeA (g := w.heap.size) (c := bcells z32) (c' := bcells E) hr5.2.1 rfl rfl rfl (by rw [bcells_len, bcells_len, HLN.out]; rfl) (bcells_one _) (by rw [bcells_len, HLN.out]; exact I73.out) ?_
  refine ⟨fun h => absurd rfl h, ?_⟩
  simp only [Act.put]
  refine wpAnyF_done (by kernel_rfl) ?_ _
  have R : Row (w5.setRow w.heap.size (bcells E).toArray) w.heap.size (bcells E) 25 := hr5.2.1.row _
  have hfin : Below w.heap.size w5 (w5.setRow w.heap.size (bcells E).toArray) := Go.below_setRow (Below.refl _ _) (Nat.le_refl _) _
  have hFr : Fr S w (w5.setRow w.heap.size (bcells E).toArray) := by
    have k1 : Fr (fun k => w.heap.size ≤ k) w5 (w5.setRow w.heap.size (bcells E).toArray) := ⟨hfin.os, hfin.tape, hfin.output, hfin.size, fun k hk hs => hfin.block k (by omega)⟩
    exact (hF5.trans k1 fun x hx => Or.inr hx)
  have HGF : G (w5.setRow w.heap.size (bcells E).toArray) := HG.out _ _ hg5 ⟨hfin.os, hfin.tape, hfin.output, hfin.size, fun k hk hs => hfin.block k (by omega)⟩
  clear hNW hHeld
  go_wp2_with fail
  exact bodyPost_ret (v := .agg (bcells E).toArray) (R.result Tryd.results74 _ rfl _ Tryd.underlying25 rfl (by rw [bcells_len, HLN.out]; exact I73.out)) rfl ⟨by rw [HEE.out], hFr, HGF⟩
end Go.Proofs.YtaklbofbhanjgaaDoor
namespace Go.Proofs.YtaklbofbhanjgaaDoor
open Go.RowKit
set_option maxRecDepth 100000
theorem upS_len {σ : Type} {i : Nat} {f : List (BitVec 8)} {ans : σ → Nat → Nat → List (BitVec 8)} {nx : σ → Nat → Nat → σ} (hf : f.length = 32) : ∀ (k lo hi : Nat) (s : σ), lo < hi → hi - lo ≤ k → (upS i f ans nx k lo hi s).1.length = 32
  | 0, _, _, _, _, _ => hf
  | k + 1, lo, hi, s, _, _ => by
    unfold upS
    split
    · exact hf
    · split <;> exact sha_len _
theorem upS_cnt {σ : Type} {i : Nat} {f : List (BitVec 8)} {ans : σ → Nat → Nat → List (BitVec 8)} {nx : σ → Nat → Nat → σ} {cnt : σ → Nat} (ht : ∀ s lo hi, cnt (nx s lo hi) ≤ cnt s + 1) {s : σ} (hs : cnt s = 0) : ∀ (k lo hi : Nat), lo < hi → hi - lo ≤ k → hi - lo ≤ 4611686018427387904 → cnt (upS i f ans nx k lo hi s).2 + 1 ≤ hi - lo
  | 0, _, _, _, _, _ => by omega
  | k + 1, lo, hi, a, b, e0 => by
    unfold upS
    by_cases e1 : hi = lo + 1
    · rw [if_pos e1, hs]; omega
    · rw [if_neg e1]
      · obtain ⟨s1, s2, s3, -, -⟩ := splitN_bd (n := hi - lo) (by omega) (by omega)
        generalize splitN (hi - lo) = m at *
        split
        · have h1 := upS_cnt (i := i) (f := f) (ans := ans) ht hs k lo (lo + m) (by omega) (by omega) (by omega)
          have h2 := ht (upS i f ans nx k lo (lo + m) s).2 (lo + m) hi
          dsimp only
          omega
        · have h1 := upS_cnt (i := i) (f := f) (ans := ans) ht hs k (lo + m) hi (by omega) (by omega) (by omega)
          have h2 := ht (upS i f ans nx k (lo + m) hi s).2 lo (lo + m)
          dsimp only
          omega
/-- What the climb asks of the function that gives the other halves. -/
structure Oth2 (fo : FuncId) (c0 c1 : Value) (B lo0 hi0 : Nat) (S : Nat → Prop) {σ : Type} (I : σ → World → Prop) (ans : σ → Nat → Nat → List (BitVec 8)) (nx : σ → Nat → Nat → σ) (cnt : σ → Nat) : Prop where
  eg : ∀ args w, (callFunc fo args).run Tryd.prog w = .ok (.enter fo args) w
  call : ∀ (w : World) (s : σ) (lo hi : Nat), I s w → cnt s ≤ hi0 - lo0 → KTab w → 2 ≤ w.heap.size → B ≤ w.heap.size → lo0 ≤ lo → lo < hi → hi ≤ hi0 → hi - lo < hi0 - lo0 → Calls Tryd.prog fo #[.int .i64 (lo : Int), .int .i64 (hi : Int), c0, c1] w fun e w' => e = .returned (.agg (bcells (ans s lo hi)).toArray) ∧ (ans s lo hi).length = 32 ∧ Fr S w w' ∧ I (nx s lo hi) w'
  keep : ∀ s w1 w2, I s w1 → Fr (fun k => B ≤ k) w1 w2 → I s w2
  tick : ∀ s lo hi, cnt (nx s lo hi) ≤ cnt s + 1
  len : ∀ s lo hi, lo0 ≤ lo → lo < hi → hi ≤ hi0 → hi - lo < hi0 - lo0 → (ans s lo hi).length = 32
theorem up_any2 {σ : Type} {I : σ → World → Prop} {ans : σ → Nat → Nat → List (BitVec 8)} {nx : σ → Nat → Nat → σ} {cnt : σ → Nat} {fo : FuncId} {c0 c1 : Value} {B lo0 hi0 : Nat} {S : Nat → Prop} (O : Oth2 fo c0 c1 B lo0 hi0 S I ans nx cnt) {pF pI pU pO i : Nat} {f : List (BitVec 8)} (hf : f.length = 32) (h1 : ¬ S 1) (hF : ¬ S pF) (hI : ¬ S pI) (hU : ¬ S pU) (hO : ¬ S pO) (hS : ∀ k, S k → k < B) (hh : hi0 ≤ 4611686018427387904) :
    ∀ (k : Nat) (lo hi : Nat) (s : σ) (w : World), lo < hi → hi - lo ≤ k → lo0 ≤ lo → hi ≤ hi0 → UpAt w pF pI pU pO f i (.func (.func fo) #[] #[c0, c1]) → cnt s = 0 → I s w → B ≤ w.heap.size →
    Calls Tryd.prog 74 #[.int .i64 (lo : Int), .int .i64 (hi : Int), .pointer (some ⟨pF, 0, none⟩), .pointer (some ⟨pI, 0, none⟩), .pointer (some ⟨pU, 0, none⟩), .pointer (some ⟨pO, 0, none⟩)] w fun e w' => e = .returned (.agg (bcells (upS i f ans nx k lo hi s).1).toArray) ∧ (upS i f ans nx k lo hi s).1.length = 32 ∧ Fr S w w' ∧ I (upS i f ans nx k lo hi s).2 w'
  | 0, lo, hi, s, w, a, b, _, _, _, _, _, _ => absurd b (by omega)
  | k + 1, lo, hi, s, w, a, b, c, d, hU4, hz, hI4, hB => by
    unfold upS
    by_cases e1 : hi = lo + 1
    · rw [if_pos e1]
      subst e1
      refine (up_leaf hU4 hf (by omega)).mono ?_
      rintro e w' ⟨rfl, hb⟩
      exact ⟨rfl, hf, Fr.of_below hb (Nat.le_refl _), O.keep _ _ _ hI4 (Fr.of_below hb (Nat.le_refl _))⟩
    · rw [if_neg e1]
      obtain ⟨s1, s2, s3, -, -⟩ := splitN_bd (n := hi - lo) (by omega) (by omega)
      obtain ⟨m, hm⟩ : ∃ m, splitN (hi - lo) = m := ⟨_, rfl⟩
      rw [hm] at s1 s2 s3 ⊢
      have kp : ∀ s w1 w2, I s w1 → Fr (fun k => w.heap.size ≤ k) w1 w2 → I s w2 := fun s w1 w2 h hf => O.keep s w1 w2 h (hf.wider fun x hx => Nat.le_trans hB hx)
      by_cases e2 : i < lo + m
      · rw [if_pos e2]
        have ih := fun wa (hb : Below w.heap.size w wa) => up_any2 O hf h1 hF hI hU hO hS hh k lo (lo + m) s wa (by omega) (by omega) c (by omega) (hU4.kept hb) hz (O.keep _ _ _ hI4 (Fr.of_below hb (Nat.le_refl _))) (Nat.le_trans hB hb.size)
        have hxl : (upS i f ans nx k lo (lo + m) s).1.length = 32 := upS_len hf k lo (lo + m) s (by omega) (by omega)
        have hyl := O.len (upS i f ans nx k lo (lo + m) s).2 (lo + m) hi (by omega) (by omega) d (by omega)
        refine (up_left2 (J := I (upS i f ans nx k lo (lo + m) s).2) (G := I (nx (upS i f ans nx k lo (lo + m) s).2 (lo + m) hi)) hU4 hxl hyl (by omega) (by omega) hm e2 h1 hF hI hU hO (fun x hx => Nat.lt_of_lt_of_le (hS x hx) hB) O.eg
          (fun wa hb => (ih wa hb).mono (by rintro e w' ⟨rfl, -, h3, h4⟩; exact ⟨rfl, h3, h4⟩))
          (fun wb hj hfr => (O.call wb _ (lo + m) hi hj (by have := upS_cnt (i := i) (f := f) (ans := ans) O.tick hz k lo (lo + m) (by omega) (by omega) (by omega); omega) (hfr.ktab hU4.kt h1) (Nat.le_trans hU4.sz hfr.size) (Nat.le_trans hB hfr.size) (by omega) (by omega) d (by omega)).mono (by rintro e w' ⟨rfl, -, h3, h4⟩; exact ⟨_, rfl, rfl, h3, h4⟩))
          (kp _) (kp _)).mono ?_
        rintro e w' ⟨rfl, h3, h4⟩
        exact ⟨rfl, sha_len _, h3, h4⟩
      · rw [if_neg e2]
        have ih := fun wa (hb : Below w.heap.size w wa) => up_any2 O hf h1 hF hI hU hO hS hh k (lo + m) hi s wa (by omega) (by omega) (by omega) d (hU4.kept hb) hz (O.keep _ _ _ hI4 (Fr.of_below hb (Nat.le_refl _))) (Nat.le_trans hB hb.size)
        have hxl : (upS i f ans nx k (lo + m) hi s).1.length = 32 := upS_len hf k (lo + m) hi s (by omega) (by omega)
        have hyl := O.len (upS i f ans nx k (lo + m) hi s).2 lo (lo + m) c (by omega) (by omega) (by omega)
        refine (up_right2 (J := I (upS i f ans nx k (lo + m) hi s).2) (G := I (nx (upS i f ans nx k (lo + m) hi s).2 lo (lo + m))) hU4 hxl hyl (by omega) (by omega) hm (by omega) h1 hF hI hU hO (fun x hx => Nat.lt_of_lt_of_le (hS x hx) hB) O.eg
          (fun wa hb => (ih wa hb).mono (by rintro e w' ⟨rfl, -, h3, h4⟩; exact ⟨rfl, h3, h4⟩))
          (fun wb hj hfr => (O.call wb _ lo (lo + m) hj (by have := upS_cnt (i := i) (f := f) (ans := ans) O.tick hz k (lo + m) hi (by omega) (by omega) (by omega); omega) (hfr.ktab hU4.kt h1) (Nat.le_trans hU4.sz hfr.size) (Nat.le_trans hB hfr.size) c (by omega) (by omega) (by omega)).mono (by rintro e w' ⟨rfl, -, h3, h4⟩; exact ⟨_, rfl, rfl, h3, h4⟩))
          (kp _) (kp _)).mono ?_
        rintro e w' ⟨rfl, h3, h4⟩
        exact ⟨rfl, sha_len _, h3, h4⟩
/-- What the climb asks of the function that gives the other halves. -/
structure Oth1 (fo : FuncId) (c0 : Value) (B lo0 hi0 : Nat) (S : Nat → Prop) {σ : Type} (I : σ → World → Prop) (ans : σ → Nat → Nat → List (BitVec 8)) (nx : σ → Nat → Nat → σ) (cnt : σ → Nat) : Prop where
  eg : ∀ args w, (callFunc fo args).run Tryd.prog w = .ok (.enter fo args) w
  call : ∀ (w : World) (s : σ) (lo hi : Nat), I s w → cnt s ≤ hi0 - lo0 → KTab w → 2 ≤ w.heap.size → B ≤ w.heap.size → lo0 ≤ lo → lo < hi → hi ≤ hi0 → hi - lo < hi0 - lo0 → Calls Tryd.prog fo #[c0, .int .i64 (lo : Int), .int .i64 (hi : Int)] w fun e w' => e = .returned (.agg (bcells (ans s lo hi)).toArray) ∧ (ans s lo hi).length = 32 ∧ Fr S w w' ∧ I (nx s lo hi) w'
  keep : ∀ s w1 w2, I s w1 → Fr (fun k => B ≤ k) w1 w2 → I s w2
  tick : ∀ s lo hi, cnt (nx s lo hi) ≤ cnt s + 1
  len : ∀ s lo hi, lo0 ≤ lo → lo < hi → hi ≤ hi0 → hi - lo < hi0 - lo0 → (ans s lo hi).length = 32
theorem up_any1 {σ : Type} {I : σ → World → Prop} {ans : σ → Nat → Nat → List (BitVec 8)} {nx : σ → Nat → Nat → σ} {cnt : σ → Nat} {fo : FuncId} {c0 : Value} {B lo0 hi0 : Nat} {S : Nat → Prop} (O : Oth1 fo c0 B lo0 hi0 S I ans nx cnt) {pF pI pU pO i : Nat} {f : List (BitVec 8)} (hf : f.length = 32) (h1 : ¬ S 1) (hF : ¬ S pF) (hI : ¬ S pI) (hU : ¬ S pU) (hO : ¬ S pO) (hS : ∀ k, S k → k < B) (hh : hi0 ≤ 4611686018427387904) :
    ∀ (k : Nat) (lo hi : Nat) (s : σ) (w : World), lo < hi → hi - lo ≤ k → lo0 ≤ lo → hi ≤ hi0 → UpAt w pF pI pU pO f i (.func (.func fo) #[c0] #[]) → cnt s = 0 → I s w → B ≤ w.heap.size →
    Calls Tryd.prog 74 #[.int .i64 (lo : Int), .int .i64 (hi : Int), .pointer (some ⟨pF, 0, none⟩), .pointer (some ⟨pI, 0, none⟩), .pointer (some ⟨pU, 0, none⟩), .pointer (some ⟨pO, 0, none⟩)] w fun e w' => e = .returned (.agg (bcells (upS i f ans nx k lo hi s).1).toArray) ∧ (upS i f ans nx k lo hi s).1.length = 32 ∧ Fr S w w' ∧ I (upS i f ans nx k lo hi s).2 w'
  | 0, lo, hi, s, w, a, b, _, _, _, _, _, _ => absurd b (by omega)
  | k + 1, lo, hi, s, w, a, b, c, d, hU4, hz, hI4, hB => by
    unfold upS
    by_cases e1 : hi = lo + 1
    · rw [if_pos e1]
      subst e1
      refine (up_leaf hU4 hf (by omega)).mono ?_
      rintro e w' ⟨rfl, hb⟩
      exact ⟨rfl, hf, Fr.of_below hb (Nat.le_refl _), O.keep _ _ _ hI4 (Fr.of_below hb (Nat.le_refl _))⟩
    · rw [if_neg e1]
      obtain ⟨s1, s2, s3, -, -⟩ := splitN_bd (n := hi - lo) (by omega) (by omega)
      obtain ⟨m, hm⟩ : ∃ m, splitN (hi - lo) = m := ⟨_, rfl⟩
      rw [hm] at s1 s2 s3 ⊢
      have kp : ∀ s w1 w2, I s w1 → Fr (fun k => w.heap.size ≤ k) w1 w2 → I s w2 := fun s w1 w2 h hf => O.keep s w1 w2 h (hf.wider fun x hx => Nat.le_trans hB hx)
      by_cases e2 : i < lo + m
      · rw [if_pos e2]
        have ih := fun wa (hb : Below w.heap.size w wa) => up_any1 O hf h1 hF hI hU hO hS hh k lo (lo + m) s wa (by omega) (by omega) c (by omega) (hU4.kept hb) hz (O.keep _ _ _ hI4 (Fr.of_below hb (Nat.le_refl _))) (Nat.le_trans hB hb.size)
        have hxl : (upS i f ans nx k lo (lo + m) s).1.length = 32 := upS_len hf k lo (lo + m) s (by omega) (by omega)
        have hyl := O.len (upS i f ans nx k lo (lo + m) s).2 (lo + m) hi (by omega) (by omega) d (by omega)
        refine (up_left1 (J := I (upS i f ans nx k lo (lo + m) s).2) (G := I (nx (upS i f ans nx k lo (lo + m) s).2 (lo + m) hi)) hU4 hxl hyl (by omega) (by omega) hm e2 h1 hF hI hU hO (fun x hx => Nat.lt_of_lt_of_le (hS x hx) hB) O.eg
          (fun wa hb => (ih wa hb).mono (by rintro e w' ⟨rfl, -, h3, h4⟩; exact ⟨rfl, h3, h4⟩))
          (fun wb hj hfr => (O.call wb _ (lo + m) hi hj (by have := upS_cnt (i := i) (f := f) (ans := ans) O.tick hz k lo (lo + m) (by omega) (by omega) (by omega); omega) (hfr.ktab hU4.kt h1) (Nat.le_trans hU4.sz hfr.size) (Nat.le_trans hB hfr.size) (by omega) (by omega) d (by omega)).mono (by rintro e w' ⟨rfl, -, h3, h4⟩; exact ⟨_, rfl, rfl, h3, h4⟩))
          (kp _) (kp _)).mono ?_
        rintro e w' ⟨rfl, h3, h4⟩
        exact ⟨rfl, sha_len _, h3, h4⟩
      · rw [if_neg e2]
        have ih := fun wa (hb : Below w.heap.size w wa) => up_any1 O hf h1 hF hI hU hO hS hh k (lo + m) hi s wa (by omega) (by omega) (by omega) d (hU4.kept hb) hz (O.keep _ _ _ hI4 (Fr.of_below hb (Nat.le_refl _))) (Nat.le_trans hB hb.size)
        have hxl : (upS i f ans nx k (lo + m) hi s).1.length = 32 := upS_len hf k (lo + m) hi s (by omega) (by omega)
        have hyl := O.len (upS i f ans nx k (lo + m) hi s).2 lo (lo + m) c (by omega) (by omega) (by omega)
        refine (up_right1 (J := I (upS i f ans nx k (lo + m) hi s).2) (G := I (nx (upS i f ans nx k (lo + m) hi s).2 lo (lo + m))) hU4 hxl hyl (by omega) (by omega) hm (by omega) h1 hF hI hU hO (fun x hx => Nat.lt_of_lt_of_le (hS x hx) hB) O.eg
          (fun wa hb => (ih wa hb).mono (by rintro e w' ⟨rfl, -, h3, h4⟩; exact ⟨rfl, h3, h4⟩))
          (fun wb hj hfr => (O.call wb _ lo (lo + m) hj (by have := upS_cnt (i := i) (f := f) (ans := ans) O.tick hz k (lo + m) hi (by omega) (by omega) (by omega); omega) (hfr.ktab hU4.kt h1) (Nat.le_trans hU4.sz hfr.size) (Nat.le_trans hB hfr.size) c (by omega) (by omega) (by omega)).mono (by rintro e w' ⟨rfl, -, h3, h4⟩; exact ⟨_, rfl, rfl, h3, h4⟩))
          (kp _) (kp _)).mono ?_
        rintro e w' ⟨rfl, h3, h4⟩
        exact ⟨rfl, sha_len _, h3, h4⟩
end Go.Proofs.YtaklbofbhanjgaaDoor
