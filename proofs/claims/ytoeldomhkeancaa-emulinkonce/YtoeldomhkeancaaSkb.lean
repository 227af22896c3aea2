import Derived.Test.YtoeldomhkeancaaPub
import Derived.Test.YtoeldomhkeancaaHp1
namespace Go.Proofs.Ytoeldomhkeancaa
open Go.RowKit Go.Maps
set_option maxRecDepth 100000

/-- What a sink has to do. -/
structure SkIb (w : World) (p o : Nat) (c : List Value) (v : Value) (L0 : List (It Value)) (k : Nat) (L : List (It Value)) : Prop where
  at_ : HMb w p o c v L
  len : L.length = L0.length
  dn : DnI L0.length (kat L) k
  lt : k ≤ L0.length
  perm : L.Perm L0
theorem SkIb.below {w w' : World} {p o : Nat} {c : List Value} {v : Value} {L0 : List (It Value)} {k : Nat} {L : List (It Value)} (h : SkIb w p o c v L0 k L) (hb : Below w.heap.size w w') : SkIb w' p o c v L0 k L :=
  ⟨h.at_.below hb, h.len, h.dn, h.lt, h.perm⟩
theorem SkIb.step {w : World} {p o g n cap : Nat} {c : List Value} {L0 : List (It Value)} {k l b : Nat} {L : List (It Value)} (h : SkIb w p o c (.slice (some ⟨g, 0, none⟩) n cap) L0 k L) {x y : It Value} (hne : ¬ l = k) (hx : L[k]? = some x) (hy : L[l]? = some y) (hi : InI L0.length (kat L) k b l) (hb : ¬ b ≤ 2 * k + 2 ∨ ¬ b < L0.length) :
    SkIb ((w.setCells g (k * 3) (icells y)).setCells g (l * 3) (icells x)) p o c (.slice (some ⟨g, 0, none⟩) n cap) L0 l (sw L k l x y) ∧ Fr (fun j => (Value.slice (some ⟨g, 0, none⟩) n cap).ownBlock = some j) w ((w.setCells g (k * 3) (icells y)).setCells g (l * 3) (icells x)) := by
  have lk := (List.getElem?_eq_some_iff.1 hx).1
  have ll := (List.getElem?_eq_some_iff.1 hy).1
  have s1 := h.at_.setI rfl lk (h.at_.one y (List.mem_of_getElem? hy))
  have s2 := s1.1.setI (k := l) (x := x) rfl (by simpa using ll) (h.at_.one x (List.mem_of_getElem? hx))
  obtain ⟨hp, h0, hln, ha⟩ := hi.it.resolve_left hne
  refine ⟨⟨s2.1, by rw [← h.len]; simp [sw], ?_, by omega, (sw_perm hx hy).trans h.perm⟩, s1.2.trans s2.2 (fun _ e => .inl e)⟩
  show DnI _ (kat (sw L k l x y)) l
  rw [kat_sw hx hy]
  exact h.dn.step hp h0 hln ha (hi.all hb)
def SkEndb (w : World) (p o : Nat) (c : List Value) (v : Value) (L : List (It Value)) (w' : World) : Prop :=
  ∃ L', HMb w' p o c v L' ∧ L'.Perm L ∧ Hp L'.length (kat L') ∧ Fr (fun j => v.ownBlock = some j) w w'
set_option maxHeartbeats 4000000 in
theorem sink_b {w : World} {p o : Nat} {c : List Value} {v : Value} {L : List (It Value)} (h : HMb w p o c v L) (hd : DnI L.length (kat L) 0) (hl : L.length ≤ 2932031007402) :
    Calls Try.prog 49 #[pt p o] w fun e w' => e = .returned (.tuple #[]) ∧ SkEndb w p o c v L w' := by
  have HE : Hid (∀ wr k Lr b, SkIb wr p o c v L k Lr → InI L.length (kat Lr) k b k → (¬ b ≤ 2 * k + 2 ∨ ¬ b < L.length) → Fr (fun j => v.ownBlock = some j) w wr → SkEndb w p o c v L wr) := fun wr k Lr b hI hi hb hF =>
    ⟨Lr, hI.at_, hI.perm, by rw [hI.len]; exact hI.dn.done (hi.all hb), hF⟩
  have HS : Hid (SkIb w p o c v L 0 L) := ⟨h, rfl, hd, Nat.zero_le _, List.Perm.refl _⟩
  obtain ⟨a, cap, hv, hlc, hcm, hz, hel⟩ := h.slice
  have hvv := hid hv
  have hli : (L.length : Int) ≤ 2932031007402 := by omega
  obtain ⟨n, hn⟩ : ∃ n, L.length = n := ⟨_, rfl⟩
  rw [hn] at hli HE
  have HN := hid hn
  have HL := hid hl
  clear h hd hl hlc hcm hz hel hv hn
  go_enter Try.func49, Try.ntmps49
  go_wp2_with fail
  go_loopw [2] (fun s wr => ∃ (k : Nat) (Lr : List (It Value)), s = .int .i64 k ∧ SkIb wr p o c v L k Lr ∧ Fr (fun j => v.ownBlock = some j) w wr) (fun s _ => n + 1 - (intOf s).toNat)
  case atStart => exact ⟨0, L, by go_num, HS.out, Fr.refl _ _⟩
  case round =>
    obtain ⟨k, Lr, rfl, hI, hF⟩ := hrel
    have HI := hid hI
    have HFr := hid hF
    have hkn : k ≤ n := by have := hI.lt; have := HN.out; omega
    have hki : (k : Int) ≤ (n : Int) := by omega
    clear hI hF HS
    obtain ⟨wo, hwo⟩ : ∃ wo, wo = wr := ⟨_, rfl⟩
    subst hwo
    have HC : Hid (∀ wx, Below wo.heap.size wo wx → wx.cell? ⟨p, o, none⟩ = some (.slice a n cap)) := fun wx hb => by
      have h1 := (HI.out.at_.below hb).cell
      rw [hvv.out, HN.out] at h1
      exact h1
    have hk0 : (0 : Int) ≤ (k : Int) := by omega
    go_wp2_with fail
    go_loopw [3, 4] (fun s t wx => ∃ (l b : Nat), s = .int .i64 l ∧ t = .int .i64 b ∧ InI n (kat Lr) k b l ∧ Below wo.heap.size wo wx) (fun _ t _ => 2 * k + 4 - (intOf t).toNat)
    case atStart => exact ⟨k, 2 * k + 1, by go_num, by go_num, InI.start _ _ _, Below.refl _ _⟩
    case round =>
      obtain ⟨l, b, rfl, rfl, hII, hBx⟩ := hrel
      have HII := hid hII
      have HBx := hid hBx
      have hb0 : (0 : Int) ≤ (b : Int) := by omega
      have hlb := hII.hi
      have hbi : (b : Int) ≤ 2 * (k : Int) + 3 := by omega
      have c8 := HC.out _ hBx
      clear hII hBx
      by_cases h1 : b ≤ 2 * k + 2
      · have h1i : (b : Int) ≤ 2 * (k : Int) + 2 := by omega
        by_cases h2 : b < n
        · have h2i : (b : Int) < (n : Int) := by omega
          have hln1 : l < n := by
            rcases HII.out.it with e | ⟨_, _, e, _⟩
            · have := HII.out.lo; omega
            · exact e
          have hln2 : (l : Int) < (n : Int) := by omega
          have h0l : (0 : Int) ≤ (l : Int) := by omega
          obtain ⟨x, hx⟩ : ∃ x, Lr[l]? = some x := ⟨_, List.getElem?_eq_getElem (by have := HI.out.len; have := HN.out; omega)⟩
          obtain ⟨y, hy⟩ : ∃ y, Lr[b]? = some y := ⟨_, List.getElem?_eq_getElem (by have := HI.out.len; have := HN.out; omega)⟩
          have hvs : v = .slice a n cap := by rw [hvv.out, HN.out]
          obtain ⟨g, rfl⟩ : ∃ g, a = some ⟨g, 0, none⟩ := by
            obtain ⟨a', cap', e, _, _, _, hh⟩ := HI.out.at_.slice
            obtain ⟨g, e', _⟩ := hh l x hx
            rw [hvs] at e
            injection e with e
            exact ⟨g, e.trans e'⟩
          have hbo : ∀ w', Below wr.heap.size wr w' → Below wo.heap.size wo w' := fun w' hb => below_two HBx.out hb (Nat.le_refl _)
          have HBO := hid hbo
          have HCC : Hid (∀ wx, Below wr.heap.size wr wx → wx.cell? ⟨p, o, none⟩ = some (.slice (some ⟨g, 0, none⟩) n cap)) := fun wx hb => HC.out wx (hbo wx hb)
          have HAH : Hid (∀ w', Calls Try.prog 45 #[.agg (icells y).toArray, .agg (icells x).toArray] w' fun e w2 => ∃ v, e = .returned v ∧ (v = .bool (decide (Ah y.key x.key)) ∧ Below w'.heap.size w' w2)) := fun w' => (ahead_b w' y x (HI.out.at_.one y (List.mem_of_getElem? hy)) (HI.out.at_.one x (List.mem_of_getElem? hx))).mono fun e w2 ⟨h1, h2⟩ => ⟨_, h1, rfl, h2⟩
          have HLX : Hid (∀ w', Below wr.heap.size wr w' → w'.cell? ⟨g, l * 3, none⟩ = some (.int .u64 x.at_) ∧ w'.cell? ⟨g, l * 3 + 1, none⟩ = some (.int .u64 x.num) ∧ w'.cell? ⟨g, l * 3 + 2, none⟩ = some x.what) := fun w' hb => (HI.out.at_.below (hbo w' hb)).cells3 hvs hx
          have HLY : Hid (∀ w', Below wr.heap.size wr w' → w'.cell? ⟨g, b * 3, none⟩ = some (.int .u64 y.at_) ∧ w'.cell? ⟨g, b * 3 + 1, none⟩ = some (.int .u64 y.num) ∧ w'.cell? ⟨g, b * 3 + 2, none⟩ = some y.what) := fun w' hb => (HI.out.at_.below (hbo w' hb)).cells3 hvs hy
          have HKX := hid (kat_get hx)
          have HKY := hid (kat_get hy)
          clear hx hy hbo hvs
          go_upto_region 5 with fail
          refine wp_region_some (fun w' => Below wr.heap.size wr w') [] (by kernel_rfl) ?_
          have hHeld := (show (fun w' => Below wr.heap.size wr w') wr.drew from below_drewN (Below.refl _ _) 1)
          refine wpAnyG_take' (i := 0) (oi := { dst := some 25, op := Go.Op.move (Go.Operand.tmp 0), type := 99, pos := "heap.go:47", after := #[], guard := none }) (v := ?v6_0) rfl (by kernel_rfl) (by kernel_rfl) (by kernel_rfl) (fun _ _ _ h => h) (Or.inl ⟨by kernel_rfl, ?h6_0⟩) ?r6_0
          case h6_0 => (intro wt hSw; clear hSw; go_simp; try with_reducible rfl)
          simp only [Act.put, List.setIfInBounds_toArray, List.set_cons_zero, List.set_cons_succ]
          refine wpAnyG_take' (i := 1) (oi := { dst := some 26, op := Go.Op.nilCheck (Go.Operand.tmp 25), type := 0, pos := "heap.go:47", after := #[{ on := 0, ground := Go.Ground.data }], guard := none }) (v := ?v6_1) rfl (by kernel_rfl) (by kernel_rfl) (by kernel_rfl) (fun _ _ _ h => h) (Or.inl ⟨by kernel_rfl, ?h6_1⟩) ?r6_1
          case h6_1 => (intro wt hSw; clear hSw; go_simp; try with_reducible rfl)
          simp only [Act.put, List.setIfInBounds_toArray, List.set_cons_zero, List.set_cons_succ]
          refine wpAnyG_take' (i := 2) (oi := { dst := some 27, op := Go.Op.fieldAddr 36 (Go.Operand.tmp 26) 0, type := 0, pos := "heap.go:47", after := #[{ on := 1, ground := Go.Ground.data }], guard := none }) (v := ?v6_2) rfl (by kernel_rfl) (by kernel_rfl) (by kernel_rfl) (fun _ _ _ h => h) (Or.inl ⟨by kernel_rfl, ?h6_2⟩) ?r6_2
          case h6_2 => (intro wt hSw; clear hSw; go_simp; try with_reducible rfl)
          simp only [Act.put, List.setIfInBounds_toArray, List.set_cons_zero, List.set_cons_succ]
          refine wpAnyG_take (i := 3) (oi := { dst := some 28, op := Go.Op.load 34 (Go.Operand.tmp 27), type := 34, pos := "heap.go:47", after := #[{ on := 2, ground := Go.Ground.data }], guard := none }) (v := ?v6_3) (by kernel_rfl) rfl (by kernel_rfl) (by kernel_rfl) (by kernel_rfl) (by kernel_rfl) (fun _ _ _ h => h) (Or.inl ⟨by kernel_rfl, ?h6_3⟩) (by assumption) ?r6_3
          case h6_3 => (intro wt hSw; (try dsimp only at hSw); have cc := HCC.out _ hSw; go_simp; try rfl)
          simp only [Act.put, List.setIfInBounds_toArray, List.set_cons_zero, List.set_cons_succ]
          refine wpAnyG_take' (i := 4) (oi := { dst := some 29, op := Go.Op.move (Go.Operand.tmp 4), type := 3, pos := "heap.go:47", after := #[], guard := none }) (v := ?v6_4) rfl (by kernel_rfl) (by kernel_rfl) (by kernel_rfl) (fun _ _ _ h => h) (Or.inl ⟨by kernel_rfl, ?h6_4⟩) ?r6_4
          case h6_4 => (intro wt hSw; clear hSw; go_simp; try with_reducible rfl)
          simp only [Act.put, List.setIfInBounds_toArray, List.set_cons_zero, List.set_cons_succ]
          refine wpAnyG_take' (i := 5) (oi := { dst := some 30, op := Go.Op.indexAddr 34 (Go.Operand.tmp 28) (Go.Operand.tmp 29), type := 0, pos := "heap.go:47", after := #[{ on := 3, ground := Go.Ground.data }, { on := 4, ground := Go.Ground.data }], guard := none }) (v := .pointer (some ⟨g, b * 3, none⟩)) rfl (by kernel_rfl) (by kernel_rfl) (by kernel_rfl) (fun _ _ _ h => h) (Or.inl ⟨by kernel_rfl, ?h6_5⟩) ?r6_5
          case h6_5 => (intro wt hSw; clear hSw; go_simp; try with_reducible rfl)
          simp only [Act.put, List.setIfInBounds_toArray, List.set_cons_zero, List.set_cons_succ]
          refine wpAnyG_take (i := 6) (oi := { dst := some 31, op := Go.Op.load 70 (Go.Operand.tmp 30), type := 70, pos := "heap.go:47", after := #[{ on := 5, ground := Go.Ground.data }], guard := none }) (v := .agg (icells y).toArray) (by kernel_rfl) rfl (by kernel_rfl) (by kernel_rfl) (by kernel_rfl) (by kernel_rfl) (fun _ _ _ h => h) (Or.inl ⟨by kernel_rfl, ?h6_6⟩) (by assumption) ?r6_6
          case h6_6 => (intro wt hSw; (try dsimp only at hSw); obtain ⟨l0, l1, l2⟩ := HLY.out _ hSw; go_simp; try rfl)
          simp only [Act.put, List.setIfInBounds_toArray, List.set_cons_zero, List.set_cons_succ]
          refine wpAnyG_take' (i := 7) (oi := { dst := some 32, op := Go.Op.move (Go.Operand.tmp 0), type := 99, pos := "heap.go:47", after := #[], guard := none }) (v := ?v6_7) rfl (by kernel_rfl) (by kernel_rfl) (by kernel_rfl) (fun _ _ _ h => h) (Or.inl ⟨by kernel_rfl, ?h6_7⟩) ?r6_7
          case h6_7 => (intro wt hSw; clear hSw; go_simp; try with_reducible rfl)
          simp only [Act.put, List.setIfInBounds_toArray, List.set_cons_zero, List.set_cons_succ]
          refine wpAnyG_take' (i := 8) (oi := { dst := some 33, op := Go.Op.nilCheck (Go.Operand.tmp 32), type := 0, pos := "heap.go:47", after := #[{ on := 7, ground := Go.Ground.data }], guard := none }) (v := ?v6_8) rfl (by kernel_rfl) (by kernel_rfl) (by kernel_rfl) (fun _ _ _ h => h) (Or.inl ⟨by kernel_rfl, ?h6_8⟩) ?r6_8
          case h6_8 => (intro wt hSw; clear hSw; go_simp; try with_reducible rfl)
          simp only [Act.put, List.setIfInBounds_toArray, List.set_cons_zero, List.set_cons_succ]
          refine wpAnyG_take' (i := 9) (oi := { dst := some 34, op := Go.Op.fieldAddr 36 (Go.Operand.tmp 33) 0, type := 0, pos := "heap.go:47", after := #[{ on := 8, ground := Go.Ground.data }], guard := none }) (v := ?v6_9) rfl (by kernel_rfl) (by kernel_rfl) (by kernel_rfl) (fun _ _ _ h => h) (Or.inl ⟨by kernel_rfl, ?h6_9⟩) ?r6_9
          case h6_9 => (intro wt hSw; clear hSw; go_simp; try with_reducible rfl)
          simp only [Act.put, List.setIfInBounds_toArray, List.set_cons_zero, List.set_cons_succ]
          refine wpAnyG_take (i := 10) (oi := { dst := some 35, op := Go.Op.load 34 (Go.Operand.tmp 34), type := 34, pos := "heap.go:47", after := #[{ on := 9, ground := Go.Ground.data }], guard := none }) (v := ?v6_10) (by kernel_rfl) rfl (by kernel_rfl) (by kernel_rfl) (by kernel_rfl) (by kernel_rfl) (fun _ _ _ h => h) (Or.inl ⟨by kernel_rfl, ?h6_10⟩) (by assumption) ?r6_10
          case h6_10 => (intro wt hSw; (try dsimp only at hSw); have cc := HCC.out _ hSw; go_simp; try rfl)
          simp only [Act.put, List.setIfInBounds_toArray, List.set_cons_zero, List.set_cons_succ]
          refine wpAnyG_take' (i := 11) (oi := { dst := some 36, op := Go.Op.move (Go.Operand.tmp 3), type := 3, pos := "heap.go:47", after := #[], guard := none }) (v := ?v6_11) rfl (by kernel_rfl) (by kernel_rfl) (by kernel_rfl) (fun _ _ _ h => h) (Or.inl ⟨by kernel_rfl, ?h6_11⟩) ?r6_11
          case h6_11 => (intro wt hSw; clear hSw; go_simp; try with_reducible rfl)
          simp only [Act.put, List.setIfInBounds_toArray, List.set_cons_zero, List.set_cons_succ]
          refine wpAnyG_take' (i := 12) (oi := { dst := some 37, op := Go.Op.indexAddr 34 (Go.Operand.tmp 35) (Go.Operand.tmp 36), type := 0, pos := "heap.go:47", after := #[{ on := 10, ground := Go.Ground.data }, { on := 11, ground := Go.Ground.data }], guard := none }) (v := .pointer (some ⟨g, l * 3, none⟩)) rfl (by kernel_rfl) (by kernel_rfl) (by kernel_rfl) (fun _ _ _ h => h) (Or.inl ⟨by kernel_rfl, ?h6_12⟩) ?r6_12
          case h6_12 => (intro wt hSw; clear hSw; go_simp; try with_reducible rfl)
          simp only [Act.put, List.setIfInBounds_toArray, List.set_cons_zero, List.set_cons_succ]
          refine wpAnyG_take (i := 13) (oi := { dst := some 38, op := Go.Op.load 70 (Go.Operand.tmp 37), type := 70, pos := "heap.go:47", after := #[{ on := 12, ground := Go.Ground.data }], guard := none }) (v := .agg (icells x).toArray) (by kernel_rfl) rfl (by kernel_rfl) (by kernel_rfl) (by kernel_rfl) (by kernel_rfl) (fun _ _ _ h => h) (Or.inl ⟨by kernel_rfl, ?h6_13⟩) (by assumption) ?r6_13
          case h6_13 => (intro wt hSw; (try dsimp only at hSw); obtain ⟨l0, l1, l2⟩ := HLX.out _ hSw; go_simp; try rfl)
          simp only [Act.put, List.setIfInBounds_toArray, List.set_cons_zero, List.set_cons_succ]
          refine wpAnyG_one (i := 14) (o := { dst := some 39, op := Go.Op.call { callee := Go.Callee.value (Go.Operand.func 45), args := #[Go.Operand.tmp 31, Go.Operand.tmp 38], argTypes := #[70, 70] }, type := 4, pos := "heap.go:47", after := #[{ on := 6, ground := Go.Ground.data }, { on := 13, ground := Go.Ground.data }], guard := none }) rfl (by kernel_rfl) (by kernel_rfl) ?_
          refine step_callxb (f := 45) (args := #[.agg (icells y).toArray, .agg (icells x).toArray]) (by first | kernel_rfl | go_simp) (HAH.out _) ?_
          rintro v6 w6 ⟨rfl, hb6⟩
          have hHeld2 := (show (fun w' => Below wr.heap.size wr w') w6 from below_two hHeld hb6 (Nat.le_refl _))
          refine ⟨fun _ _ => hHeld2, ?_⟩
          simp only [Act.put, List.setIfInBounds_toArray, List.set_cons_zero, List.set_cons_succ]
          refine wpAnyG_done (by kernel_rfl) ?_ _
          have HB6 := hid (HBO.out w6 hHeld2)
          clear hHeld hHeld2 hb6 HAH HLX HLY HCC HBO c8
          by_cases hAh : Ah y.key x.key
          · have hd1 : decide (Ah y.key x.key) = true := decide_eq_true hAh
            rw [hd1]
            go_wp2_with fail
            go_roundw
            case rel => exact ⟨b, b + 1, by go_num, by go_num, HII.out.yes h1 h2 (by rw [HKX.out, HKY.out]; exact hAh), HB6.out⟩
            case measure => simp [intOf]; omega
          · have hd1 : decide (Ah y.key x.key) = false := decide_eq_false hAh
            rw [hd1]
            go_wp2_with fail
            go_roundw
            case rel => exact ⟨l, b + 1, by go_num, by go_num, HII.out.no h1 (by rw [HKX.out, HKY.out]; exact hAh), HB6.out⟩
            case measure => simp [intOf]; omega
        · have h2i : ¬ (b : Int) < (n : Int) := by omega
          by_cases hlk : l = k
          · subst hlk
            go_wp2_with fail
            refine bodyPost_ret (results_none Try.results49 _ _ _) rfl ?_
            exact ⟨rfl, HE.out _ _ _ _ (HI.out.below HBx.out) HII.out (.inr h2) (HFr.out.trans (T := fun _ => False) (Fr.of_below HBx.out (Nat.le_refl _)) (fun _ e => e.elim))⟩
          · have hlk1 : ¬ (l : Int) = (k : Int) := by omega
            go_upto_region 8 with fail
            have hkn1 : k < n := by have h1 := HII.out.it.resolve_left hlk; have h2 := par_lt h1.2.1; omega
            have hln1 : l < n := HII.out.lt hkn1
            have hln2 : (l : Int) < (n : Int) := by omega
            have hkn2 : (k : Int) < (n : Int) := by omega
            have h0k : (0 : Int) ≤ (k : Int) := by omega
            have h0l : (0 : Int) ≤ (l : Int) := by omega
            obtain ⟨x, hx⟩ : ∃ x, Lr[k]? = some x := ⟨_, List.getElem?_eq_getElem (by have := HI.out.len; have := HN.out; omega)⟩
            obtain ⟨y, hy⟩ : ∃ y, Lr[l]? = some y := ⟨_, List.getElem?_eq_getElem (by have := HI.out.len; have := HN.out; omega)⟩
            have HI6 := hid (HI.out.below HBx.out)
            have HI7 : Hid (SkIb wr.drew p o c v L k Lr) := hid (HI6.out.below (below_drewN (Below.refl _ _) 1))
            have hvs : v = .slice a n cap := by rw [hvv.out, HN.out]
            obtain ⟨g, rfl⟩ : ∃ g, a = some ⟨g, 0, none⟩ := by
              obtain ⟨a', cap', e, _, _, _, hh⟩ := HI6.out.at_.slice
              obtain ⟨g, e', _⟩ := hh k x hx
              rw [hvs] at e
              injection e with e
              exact ⟨g, e.trans e'⟩
            subst hvs
            have HT := hid (HI7.out.step hlk hx hy (by rw [HN.out]; exact HII.out) (b := b) (by rw [HN.out]; exact .inr h2))
            have HF6 : Hid (Fr (fun j => (Value.slice (some ⟨g, 0, none⟩) n cap).ownBlock = some j) w wr.drew) := (HFr.out.trans (T := fun _ => False) (Fr.of_below HBx.out (Nat.le_refl _)) (fun _ e => e.elim)).drewN 1
            have hkl : k < Lr.length := (List.getElem?_eq_some_iff.1 hx).1
            have hll : l < Lr.length := (List.getElem?_eq_some_iff.1 hy).1
            have c8 := HI6.out.at_.cell
            have HLX : Hid (_ ∧ _ ∧ _) := hid (HI6.out.at_.cells3 rfl hx)
            have HLY : Hid (_ ∧ _ ∧ _) := hid (HI6.out.at_.cells3 rfl hy)
            have HTX := hid (HI7.out.at_.frozen3 rfl hkl)
            have HTY := hid (HI7.out.at_.frozen3 rfl hll)
            have hox := HI7.out.at_.one x (List.mem_of_getElem? hx)
            have hoy := HI7.out.at_.one y (List.mem_of_getElem? hy)
            have HMS := hid (show k < l by have h1 := HII.out.it.resolve_left hlk; have h2 := par_lt h1.2.1; omega)
            clear HI HFr HII HI6 HC hkl hll hx hy HBx
            refine wp_region_some (fun w' => w' = wr.drew) [25, 27] (by kernel_rfl) ?_
            have hHeld := (show (fun w' => w' = wr.drew) wr.drew from rfl)
            refine wpAnyG_take' (i := 0) (oi := { dst := some 44, op := Go.Op.move (Go.Operand.tmp 0), type := 99, pos := "heap.go:54", after := #[], guard := none }) (v := ?v4_0) rfl (by kernel_rfl) (by kernel_rfl) (by kernel_rfl) (fun _ _ _ h => h) (Or.inl ⟨by kernel_rfl, ?h4_0⟩) ?r4_0
            case h4_0 => (intro wt hSw; clear hSw; go_simp; try with_reducible rfl)
            simp only [Act.put, List.setIfInBounds_toArray, List.set_cons_zero, List.set_cons_succ]
            refine wpAnyG_take' (i := 1) (oi := { dst := some 45, op := Go.Op.nilCheck (Go.Operand.tmp 44), type := 0, pos := "heap.go:54", after := #[{ on := 0, ground := Go.Ground.data }], guard := none }) (v := ?v4_1) rfl (by kernel_rfl) (by kernel_rfl) (by kernel_rfl) (fun _ _ _ h => h) (Or.inl ⟨by kernel_rfl, ?h4_1⟩) ?r4_1
            case h4_1 => (intro wt hSw; clear hSw; go_simp; try with_reducible rfl)
            simp only [Act.put, List.setIfInBounds_toArray, List.set_cons_zero, List.set_cons_succ]
            refine wpAnyG_take' (i := 2) (oi := { dst := some 46, op := Go.Op.fieldAddr 36 (Go.Operand.tmp 45) 0, type := 0, pos := "heap.go:54", after := #[{ on := 1, ground := Go.Ground.data }], guard := none }) (v := ?v4_2) rfl (by kernel_rfl) (by kernel_rfl) (by kernel_rfl) (fun _ _ _ h => h) (Or.inl ⟨by kernel_rfl, ?h4_2⟩) ?r4_2
            case h4_2 => (intro wt hSw; clear hSw; go_simp; try with_reducible rfl)
            simp only [Act.put, List.setIfInBounds_toArray, List.set_cons_zero, List.set_cons_succ]
            refine wpAnyG_take (i := 3) (oi := { dst := some 47, op := Go.Op.load 34 (Go.Operand.tmp 46), type := 34, pos := "heap.go:54", after := #[{ on := 2, ground := Go.Ground.data }], guard := none }) (v := ?v4_3) (by kernel_rfl) rfl (by kernel_rfl) (by kernel_rfl) (by kernel_rfl) (by kernel_rfl) (fun _ _ _ h => h) (Or.inl ⟨by kernel_rfl, ?h4_3⟩) (by assumption) ?r4_3
            case h4_3 => (intro wt hSw; (try dsimp only at hSw); subst hSw; go_simp; try rfl)
            simp only [Act.put, List.setIfInBounds_toArray, List.set_cons_zero, List.set_cons_succ]
            refine wpAnyG_take' (i := 4) (oi := { dst := some 48, op := Go.Op.move (Go.Operand.tmp 2), type := 3, pos := "heap.go:54", after := #[], guard := none }) (v := ?v4_4) rfl (by kernel_rfl) (by kernel_rfl) (by kernel_rfl) (fun _ _ _ h => h) (Or.inl ⟨by kernel_rfl, ?h4_4⟩) ?r4_4
            case h4_4 => (intro wt hSw; clear hSw; go_simp; try with_reducible rfl)
            simp only [Act.put, List.setIfInBounds_toArray, List.set_cons_zero, List.set_cons_succ]
            refine wpAnyG_take' (i := 5) (oi := { dst := some 49, op := Go.Op.move (Go.Operand.tmp 0), type := 99, pos := "heap.go:54", after := #[], guard := none }) (v := ?v4_5) rfl (by kernel_rfl) (by kernel_rfl) (by kernel_rfl) (fun _ _ _ h => h) (Or.inl ⟨by kernel_rfl, ?h4_5⟩) ?r4_5
            case h4_5 => (intro wt hSw; clear hSw; go_simp; try with_reducible rfl)
            simp only [Act.put, List.setIfInBounds_toArray, List.set_cons_zero, List.set_cons_succ]
            refine wpAnyG_take' (i := 6) (oi := { dst := some 50, op := Go.Op.nilCheck (Go.Operand.tmp 49), type := 0, pos := "heap.go:54", after := #[{ on := 5, ground := Go.Ground.data }], guard := none }) (v := ?v4_6) rfl (by kernel_rfl) (by kernel_rfl) (by kernel_rfl) (fun _ _ _ h => h) (Or.inl ⟨by kernel_rfl, ?h4_6⟩) ?r4_6
            case h4_6 => (intro wt hSw; clear hSw; go_simp; try with_reducible rfl)
            simp only [Act.put, List.setIfInBounds_toArray, List.set_cons_zero, List.set_cons_succ]
            refine wpAnyG_take' (i := 7) (oi := { dst := some 51, op := Go.Op.fieldAddr 36 (Go.Operand.tmp 50) 0, type := 0, pos := "heap.go:54", after := #[{ on := 6, ground := Go.Ground.data }], guard := none }) (v := ?v4_7) rfl (by kernel_rfl) (by kernel_rfl) (by kernel_rfl) (fun _ _ _ h => h) (Or.inl ⟨by kernel_rfl, ?h4_7⟩) ?r4_7
            case h4_7 => (intro wt hSw; clear hSw; go_simp; try with_reducible rfl)
            simp only [Act.put, List.setIfInBounds_toArray, List.set_cons_zero, List.set_cons_succ]
            refine wpAnyG_take (i := 8) (oi := { dst := some 52, op := Go.Op.load 34 (Go.Operand.tmp 51), type := 34, pos := "heap.go:54", after := #[{ on := 7, ground := Go.Ground.data }], guard := none }) (v := ?v4_8) (by kernel_rfl) rfl (by kernel_rfl) (by kernel_rfl) (by kernel_rfl) (by kernel_rfl) (fun _ _ _ h => h) (Or.inl ⟨by kernel_rfl, ?h4_8⟩) (by assumption) ?r4_8
            case h4_8 => (intro wt hSw; (try dsimp only at hSw); subst hSw; go_simp; try rfl)
            simp only [Act.put, List.setIfInBounds_toArray, List.set_cons_zero, List.set_cons_succ]
            refine wpAnyG_take' (i := 9) (oi := { dst := some 53, op := Go.Op.move (Go.Operand.tmp 3), type := 3, pos := "heap.go:54", after := #[{ on := 25, ground := Go.Ground.gcOnly Go.Departure.lateStores }], guard := none }) (v := ?v4_9) rfl (by kernel_rfl) (by kernel_rfl) (by kernel_rfl) (fun _ _ _ h => h) (Or.inl ⟨by kernel_rfl, ?h4_9⟩) ?r4_9
            case h4_9 => (intro wt hSw; clear hSw; go_simp; try with_reducible rfl)
            simp only [Act.put, List.setIfInBounds_toArray, List.set_cons_zero, List.set_cons_succ]
            refine wpAnyG_take' (i := 10) (oi := { dst := some 54, op := Go.Op.move (Go.Operand.tmp 0), type := 99, pos := "heap.go:54", after := #[], guard := none }) (v := ?v4_10) rfl (by kernel_rfl) (by kernel_rfl) (by kernel_rfl) (fun _ _ _ h => h) (Or.inl ⟨by kernel_rfl, ?h4_10⟩) ?r4_10
            case h4_10 => (intro wt hSw; clear hSw; go_simp; try with_reducible rfl)
            simp only [Act.put, List.setIfInBounds_toArray, List.set_cons_zero, List.set_cons_succ]
            refine wpAnyG_take' (i := 11) (oi := { dst := some 55, op := Go.Op.nilCheck (Go.Operand.tmp 54), type := 0, pos := "heap.go:54", after := #[{ on := 10, ground := Go.Ground.data }], guard := none }) (v := ?v4_11) rfl (by kernel_rfl) (by kernel_rfl) (by kernel_rfl) (fun _ _ _ h => h) (Or.inl ⟨by kernel_rfl, ?h4_11⟩) ?r4_11
            case h4_11 => (intro wt hSw; clear hSw; go_simp; try with_reducible rfl)
            simp only [Act.put, List.setIfInBounds_toArray, List.set_cons_zero, List.set_cons_succ]
            refine wpAnyG_take' (i := 12) (oi := { dst := some 56, op := Go.Op.fieldAddr 36 (Go.Operand.tmp 55) 0, type := 0, pos := "heap.go:54", after := #[{ on := 11, ground := Go.Ground.data }], guard := none }) (v := ?v4_12) rfl (by kernel_rfl) (by kernel_rfl) (by kernel_rfl) (fun _ _ _ h => h) (Or.inl ⟨by kernel_rfl, ?h4_12⟩) ?r4_12
            case h4_12 => (intro wt hSw; clear hSw; go_simp; try with_reducible rfl)
            simp only [Act.put, List.setIfInBounds_toArray, List.set_cons_zero, List.set_cons_succ]
            refine wpAnyG_take (i := 13) (oi := { dst := some 57, op := Go.Op.load 34 (Go.Operand.tmp 56), type := 34, pos := "heap.go:54", after := #[{ on := 12, ground := Go.Ground.data }], guard := none }) (v := ?v4_13) (by kernel_rfl) rfl (by kernel_rfl) (by kernel_rfl) (by kernel_rfl) (by kernel_rfl) (fun _ _ _ h => h) (Or.inl ⟨by kernel_rfl, ?h4_13⟩) (by assumption) ?r4_13
            case h4_13 => (intro wt hSw; (try dsimp only at hSw); subst hSw; go_simp; try rfl)
            simp only [Act.put, List.setIfInBounds_toArray, List.set_cons_zero, List.set_cons_succ]
            refine wpAnyG_take' (i := 14) (oi := { dst := some 58, op := Go.Op.move (Go.Operand.tmp 3), type := 3, pos := "heap.go:54", after := #[], guard := none }) (v := ?v4_14) rfl (by kernel_rfl) (by kernel_rfl) (by kernel_rfl) (fun _ _ _ h => h) (Or.inl ⟨by kernel_rfl, ?h4_14⟩) ?r4_14
            case h4_14 => (intro wt hSw; clear hSw; go_simp; try with_reducible rfl)
            simp only [Act.put, List.setIfInBounds_toArray, List.set_cons_zero, List.set_cons_succ]
            refine wpAnyG_take' (i := 15) (oi := { dst := some 59, op := Go.Op.indexAddr 34 (Go.Operand.tmp 57) (Go.Operand.tmp 58), type := 0, pos := "heap.go:54", after := #[{ on := 13, ground := Go.Ground.data }, { on := 14, ground := Go.Ground.data }], guard := none }) (v := .pointer (some ⟨g, l * 3, none⟩)) rfl (by kernel_rfl) (by kernel_rfl) (by kernel_rfl) (fun _ _ _ h => h) (Or.inl ⟨by kernel_rfl, ?h4_15⟩) ?r4_15
            case h4_15 => (intro wt hSw; clear hSw; go_simp; try with_reducible rfl)
            simp only [Act.put, List.setIfInBounds_toArray, List.set_cons_zero, List.set_cons_succ]
            refine wpAnyG_take (i := 16) (oi := { dst := some 60, op := Go.Op.load 70 (Go.Operand.tmp 59), type := 70, pos := "heap.go:54", after := #[{ on := 15, ground := Go.Ground.data }], guard := none }) (v := .agg (icells y).toArray) (by kernel_rfl) rfl (by kernel_rfl) (by kernel_rfl) (by kernel_rfl) (by kernel_rfl) (fun _ _ _ h => h) (Or.inl ⟨by kernel_rfl, ?h4_16⟩) (by assumption) ?r4_16
            case h4_16 => (intro wt hSw; (try dsimp only at hSw); subst hSw; obtain ⟨l0, l1, l2⟩ := HLY.out; go_simp; try rfl)
            simp only [Act.put, List.setIfInBounds_toArray, List.set_cons_zero, List.set_cons_succ]
            refine wpAnyG_take' (i := 17) (oi := { dst := some 61, op := Go.Op.move (Go.Operand.tmp 0), type := 99, pos := "heap.go:54", after := #[], guard := none }) (v := ?v4_17) rfl (by kernel_rfl) (by kernel_rfl) (by kernel_rfl) (fun _ _ _ h => h) (Or.inl ⟨by kernel_rfl, ?h4_17⟩) ?r4_17
            case h4_17 => (intro wt hSw; clear hSw; go_simp; try with_reducible rfl)
            simp only [Act.put, List.setIfInBounds_toArray, List.set_cons_zero, List.set_cons_succ]
            refine wpAnyG_take' (i := 18) (oi := { dst := some 62, op := Go.Op.nilCheck (Go.Operand.tmp 61), type := 0, pos := "heap.go:54", after := #[{ on := 17, ground := Go.Ground.data }], guard := none }) (v := ?v4_18) rfl (by kernel_rfl) (by kernel_rfl) (by kernel_rfl) (fun _ _ _ h => h) (Or.inl ⟨by kernel_rfl, ?h4_18⟩) ?r4_18
            case h4_18 => (intro wt hSw; clear hSw; go_simp; try with_reducible rfl)
            simp only [Act.put, List.setIfInBounds_toArray, List.set_cons_zero, List.set_cons_succ]
            refine wpAnyG_take' (i := 19) (oi := { dst := some 63, op := Go.Op.fieldAddr 36 (Go.Operand.tmp 62) 0, type := 0, pos := "heap.go:54", after := #[{ on := 18, ground := Go.Ground.data }], guard := none }) (v := ?v4_19) rfl (by kernel_rfl) (by kernel_rfl) (by kernel_rfl) (fun _ _ _ h => h) (Or.inl ⟨by kernel_rfl, ?h4_19⟩) ?r4_19
            case h4_19 => (intro wt hSw; clear hSw; go_simp; try with_reducible rfl)
            simp only [Act.put, List.setIfInBounds_toArray, List.set_cons_zero, List.set_cons_succ]
            refine wpAnyG_take (i := 20) (oi := { dst := some 64, op := Go.Op.load 34 (Go.Operand.tmp 63), type := 34, pos := "heap.go:54", after := #[{ on := 19, ground := Go.Ground.data }], guard := none }) (v := ?v4_20) (by kernel_rfl) rfl (by kernel_rfl) (by kernel_rfl) (by kernel_rfl) (by kernel_rfl) (fun _ _ _ h => h) (Or.inl ⟨by kernel_rfl, ?h4_20⟩) (by assumption) ?r4_20
            case h4_20 => (intro wt hSw; (try dsimp only at hSw); subst hSw; go_simp; try rfl)
            simp only [Act.put, List.setIfInBounds_toArray, List.set_cons_zero, List.set_cons_succ]
            refine wpAnyG_take' (i := 21) (oi := { dst := some 65, op := Go.Op.move (Go.Operand.tmp 2), type := 3, pos := "heap.go:54", after := #[], guard := none }) (v := ?v4_21) rfl (by kernel_rfl) (by kernel_rfl) (by kernel_rfl) (fun _ _ _ h => h) (Or.inl ⟨by kernel_rfl, ?h4_21⟩) ?r4_21
            case h4_21 => (intro wt hSw; clear hSw; go_simp; try with_reducible rfl)
            simp only [Act.put, List.setIfInBounds_toArray, List.set_cons_zero, List.set_cons_succ]
            refine wpAnyG_take' (i := 22) (oi := { dst := some 66, op := Go.Op.indexAddr 34 (Go.Operand.tmp 64) (Go.Operand.tmp 65), type := 0, pos := "heap.go:54", after := #[{ on := 20, ground := Go.Ground.data }, { on := 21, ground := Go.Ground.data }], guard := none }) (v := .pointer (some ⟨g, k * 3, none⟩)) rfl (by kernel_rfl) (by kernel_rfl) (by kernel_rfl) (fun _ _ _ h => h) (Or.inl ⟨by kernel_rfl, ?h4_22⟩) ?r4_22
            case h4_22 => (intro wt hSw; clear hSw; go_simp; try with_reducible rfl)
            simp only [Act.put, List.setIfInBounds_toArray, List.set_cons_zero, List.set_cons_succ]
            refine wpAnyG_take (i := 23) (oi := { dst := some 67, op := Go.Op.load 70 (Go.Operand.tmp 66), type := 70, pos := "heap.go:54", after := #[{ on := 22, ground := Go.Ground.data }], guard := none }) (v := .agg (icells x).toArray) (by kernel_rfl) rfl (by kernel_rfl) (by kernel_rfl) (by kernel_rfl) (by kernel_rfl) (fun _ _ _ h => h) (Or.inl ⟨by kernel_rfl, ?h4_23⟩) (by assumption) ?r4_23
            case h4_23 => (intro wt hSw; (try dsimp only at hSw); subst hSw; obtain ⟨l0, l1, l2⟩ := HLX.out; go_simp; try rfl)
            simp only [Act.put, List.setIfInBounds_toArray, List.set_cons_zero, List.set_cons_succ]
            refine wpAnyG_take' (i := 24) (oi := { dst := some 68, op := Go.Op.indexAddr 34 (Go.Operand.tmp 47) (Go.Operand.tmp 48), type := 0, pos := "heap.go:54", after := #[{ on := 3, ground := Go.Ground.data }, { on := 4, ground := Go.Ground.data }, { on := 0, ground := Go.Ground.phase }, { on := 1, ground := Go.Ground.phase }, { on := 2, ground := Go.Ground.phase }, { on := 3, ground := Go.Ground.phase }, { on := 4, ground := Go.Ground.phase }, { on := 5, ground := Go.Ground.textOnly Go.Departure.lateStores }, { on := 6, ground := Go.Ground.textOnly Go.Departure.lateStoresUnsure }, { on := 7, ground := Go.Ground.textOnly Go.Departure.lateStoresUnsure }, { on := 8, ground := Go.Ground.phase }, { on := 9, ground := Go.Ground.textOnly Go.Departure.lateStores }, { on := 10, ground := Go.Ground.phase }, { on := 11, ground := Go.Ground.phase }, { on := 12, ground := Go.Ground.phase }, { on := 13, ground := Go.Ground.phase }, { on := 14, ground := Go.Ground.phase }, { on := 15, ground := Go.Ground.phase }, { on := 16, ground := Go.Ground.phase }, { on := 17, ground := Go.Ground.textOnly Go.Departure.lateStores }, { on := 18, ground := Go.Ground.textOnly Go.Departure.lateStoresUnsure }, { on := 19, ground := Go.Ground.textOnly Go.Departure.lateStoresUnsure }, { on := 20, ground := Go.Ground.phase }, { on := 21, ground := Go.Ground.textOnly Go.Departure.lateStores }, { on := 22, ground := Go.Ground.textOnly Go.Departure.lateStoresUnsure }, { on := 23, ground := Go.Ground.phase }], guard := none }) (v := .pointer (some ⟨g, k * 3, none⟩)) rfl (by kernel_rfl) (by kernel_rfl) (by kernel_rfl) (fun _ _ _ h => h) (Or.inl ⟨by kernel_rfl, ?h4_24⟩) ?r4_24
            case h4_24 => (intro wt hSw; clear hSw; go_simp; try with_reducible rfl)
            simp only [Act.put, List.setIfInBounds_toArray, List.set_cons_zero, List.set_cons_succ]
            refine wpAnyG_one (i := 25) (o := { dst := none, op := Go.Op.store 70 (Go.Operand.tmp 68) (Go.Operand.tmp 60), type := 0, pos := "heap.go:54", after := #[{ on := 24, ground := Go.Ground.data }, { on := 16, ground := Go.Ground.data }, { on := 0, ground := Go.Ground.phase }, { on := 1, ground := Go.Ground.phase }, { on := 2, ground := Go.Ground.phase }, { on := 3, ground := Go.Ground.phase }, { on := 4, ground := Go.Ground.phase }, { on := 5, ground := Go.Ground.textOnly Go.Departure.lateStores }, { on := 6, ground := Go.Ground.textOnly Go.Departure.lateStoresUnsure }, { on := 7, ground := Go.Ground.textOnly Go.Departure.lateStoresUnsure }, { on := 8, ground := Go.Ground.phase }, { on := 9, ground := Go.Ground.textOnly Go.Departure.lateStores }, { on := 10, ground := Go.Ground.phase }, { on := 11, ground := Go.Ground.phase }, { on := 12, ground := Go.Ground.phase }, { on := 13, ground := Go.Ground.phase }, { on := 14, ground := Go.Ground.phase }, { on := 15, ground := Go.Ground.phase }, { on := 16, ground := Go.Ground.phase }, { on := 17, ground := Go.Ground.textOnly Go.Departure.lateStores }, { on := 18, ground := Go.Ground.textOnly Go.Departure.lateStoresUnsure }, { on := 19, ground := Go.Ground.textOnly Go.Departure.lateStoresUnsure }, { on := 20, ground := Go.Ground.phase }, { on := 21, ground := Go.Ground.textOnly Go.Departure.lateStores }, { on := 22, ground := Go.Ground.textOnly Go.Departure.lateStoresUnsure }, { on := 23, ground := Go.Ground.phase }], guard := none }) rfl (by kernel_rfl) (by kernel_rfl) ?_
            refine step_storeI_b (it := y) (b := g) (j := k * 3) rfl rfl rfl HTX.out hoy ?_
            refine ⟨fun h => absurd (by simp) h, ?_⟩
            simp only [Act.put]
            refine wpAnyG_take' (i := 26) (oi := { dst := some 69, op := Go.Op.indexAddr 34 (Go.Operand.tmp 52) (Go.Operand.tmp 53), type := 0, pos := "heap.go:54", after := #[{ on := 8, ground := Go.Ground.data }, { on := 9, ground := Go.Ground.data }, { on := 0, ground := Go.Ground.phase }, { on := 1, ground := Go.Ground.phase }, { on := 2, ground := Go.Ground.phase }, { on := 3, ground := Go.Ground.phase }, { on := 4, ground := Go.Ground.phase }, { on := 5, ground := Go.Ground.phase }, { on := 6, ground := Go.Ground.phase }, { on := 7, ground := Go.Ground.phase }, { on := 8, ground := Go.Ground.phase }, { on := 9, ground := Go.Ground.phase }, { on := 10, ground := Go.Ground.phase }, { on := 11, ground := Go.Ground.phase }, { on := 12, ground := Go.Ground.phase }, { on := 13, ground := Go.Ground.phase }, { on := 14, ground := Go.Ground.phase }, { on := 15, ground := Go.Ground.phase }, { on := 16, ground := Go.Ground.phase }, { on := 17, ground := Go.Ground.phase }, { on := 18, ground := Go.Ground.phase }, { on := 19, ground := Go.Ground.phase }, { on := 20, ground := Go.Ground.phase }, { on := 21, ground := Go.Ground.phase }, { on := 22, ground := Go.Ground.phase }, { on := 23, ground := Go.Ground.phase }, { on := 24, ground := Go.Ground.phase }, { on := 25, ground := Go.Ground.phase }], guard := none }) (v := .pointer (some ⟨g, l * 3, none⟩)) rfl (by kernel_rfl) (by kernel_rfl) (by kernel_rfl) (fun _ _ _ h => h) (Or.inl ⟨by kernel_rfl, ?h4_26⟩) ?r4_26
            case h4_26 => (intro wt hSw; clear hSw; go_simp; try with_reducible rfl)
            simp only [Act.put, List.setIfInBounds_toArray, List.set_cons_zero, List.set_cons_succ]
            refine wpAnyG_one (i := 27) (o := { dst := none, op := Go.Op.store 70 (Go.Operand.tmp 69) (Go.Operand.tmp 67), type := 0, pos := "heap.go:54", after := #[{ on := 26, ground := Go.Ground.data }, { on := 23, ground := Go.Ground.data }, { on := 25, ground := Go.Ground.chain }, { on := 0, ground := Go.Ground.phase }, { on := 1, ground := Go.Ground.phase }, { on := 2, ground := Go.Ground.phase }, { on := 3, ground := Go.Ground.phase }, { on := 4, ground := Go.Ground.phase }, { on := 5, ground := Go.Ground.phase }, { on := 6, ground := Go.Ground.phase }, { on := 7, ground := Go.Ground.phase }, { on := 8, ground := Go.Ground.phase }, { on := 9, ground := Go.Ground.phase }, { on := 10, ground := Go.Ground.phase }, { on := 11, ground := Go.Ground.phase }, { on := 12, ground := Go.Ground.phase }, { on := 13, ground := Go.Ground.phase }, { on := 14, ground := Go.Ground.phase }, { on := 15, ground := Go.Ground.phase }, { on := 16, ground := Go.Ground.phase }, { on := 17, ground := Go.Ground.phase }, { on := 18, ground := Go.Ground.phase }, { on := 19, ground := Go.Ground.phase }, { on := 20, ground := Go.Ground.phase }, { on := 21, ground := Go.Ground.phase }, { on := 22, ground := Go.Ground.phase }, { on := 23, ground := Go.Ground.phase }, { on := 24, ground := Go.Ground.phase }, { on := 25, ground := Go.Ground.phase }], guard := none }) rfl (by kernel_rfl) (by kernel_rfl) ?_
            refine step_storeI_b (it := x) (b := g) (j := l * 3) rfl rfl rfl (World.there_setCells HTY.out _ _ _) hox ?_
            refine ⟨fun h => absurd (by simp) h, ?_⟩
            simp only [Act.put]
            refine wpAnyG_done (by kernel_rfl) ?_ _
            clear hHeld HLX HLY HTX HTY HI7
            generalize (wr.drew.setCells g (k * 3) (icells y)).setCells g (l * 3) (icells x) = w9 at *
            go_wp2_with fail
            go_roundw
            case rel => exact ⟨l, _, by go_num, HT.out.1, HF6.out.trans HT.out.2 (fun _ e => .inl e)⟩
            case measure => simp [intOf]; have := HMS.out; omega
      · have h1i : ¬ (b : Int) ≤ 2 * (k : Int) + 2 := by omega
        by_cases hlk : l = k
        · subst hlk
          go_wp2_with fail
          refine bodyPost_ret (results_none Try.results49 _ _ _) rfl ?_
          exact ⟨rfl, HE.out _ _ _ _ (HI.out.below HBx.out) HII.out (.inl h1) (HFr.out.trans (T := fun _ => False) (Fr.of_below HBx.out (Nat.le_refl _)) (fun _ e => e.elim))⟩
        · have hlk1 : ¬ (l : Int) = (k : Int) := by omega
          go_upto_region 8 with fail
          have hkn1 : k < n := by have h1 := HII.out.it.resolve_left hlk; have h2 := par_lt h1.2.1; omega
          have hln1 : l < n := HII.out.lt hkn1
          have hln2 : (l : Int) < (n : Int) := by omega
          have hkn2 : (k : Int) < (n : Int) := by omega
          have h0k : (0 : Int) ≤ (k : Int) := by omega
          have h0l : (0 : Int) ≤ (l : Int) := by omega
          obtain ⟨x, hx⟩ : ∃ x, Lr[k]? = some x := ⟨_, List.getElem?_eq_getElem (by have := HI.out.len; have := HN.out; omega)⟩
          obtain ⟨y, hy⟩ : ∃ y, Lr[l]? = some y := ⟨_, List.getElem?_eq_getElem (by have := HI.out.len; have := HN.out; omega)⟩
          have HI6 := hid (HI.out.below HBx.out)
          have HI7 : Hid (SkIb wr.drew p o c v L k Lr) := hid (HI6.out.below (below_drewN (Below.refl _ _) 1))
          have hvs : v = .slice a n cap := by rw [hvv.out, HN.out]
          obtain ⟨g, rfl⟩ : ∃ g, a = some ⟨g, 0, none⟩ := by
            obtain ⟨a', cap', e, _, _, _, hh⟩ := HI6.out.at_.slice
            obtain ⟨g, e', _⟩ := hh k x hx
            rw [hvs] at e
            injection e with e
            exact ⟨g, e.trans e'⟩
          subst hvs
          have HT := hid (HI7.out.step hlk hx hy (by rw [HN.out]; exact HII.out) (b := b) (by rw [HN.out]; exact .inl h1))
          have HF6 : Hid (Fr (fun j => (Value.slice (some ⟨g, 0, none⟩) n cap).ownBlock = some j) w wr.drew) := (HFr.out.trans (T := fun _ => False) (Fr.of_below HBx.out (Nat.le_refl _)) (fun _ e => e.elim)).drewN 1
          have hkl : k < Lr.length := (List.getElem?_eq_some_iff.1 hx).1
          have hll : l < Lr.length := (List.getElem?_eq_some_iff.1 hy).1
          have c8 := HI6.out.at_.cell
          have HLX : Hid (_ ∧ _ ∧ _) := hid (HI6.out.at_.cells3 rfl hx)
          have HLY : Hid (_ ∧ _ ∧ _) := hid (HI6.out.at_.cells3 rfl hy)
          have HTX := hid (HI7.out.at_.frozen3 rfl hkl)
          have HTY := hid (HI7.out.at_.frozen3 rfl hll)
          have hox := HI7.out.at_.one x (List.mem_of_getElem? hx)
          have hoy := HI7.out.at_.one y (List.mem_of_getElem? hy)
          have HMS := hid (show k < l by have h1 := HII.out.it.resolve_left hlk; have h2 := par_lt h1.2.1; omega)
          clear HI HFr HII HI6 HC hkl hll hx hy HBx
          refine wp_region_some (fun w' => w' = wr.drew) [25, 27] (by kernel_rfl) ?_
          have hHeld := (show (fun w' => w' = wr.drew) wr.drew from rfl)
          refine wpAnyG_take' (i := 0) (oi := { dst := some 44, op := Go.Op.move (Go.Operand.tmp 0), type := 99, pos := "heap.go:54", after := #[], guard := none }) (v := ?v5_0) rfl (by kernel_rfl) (by kernel_rfl) (by kernel_rfl) (fun _ _ _ h => h) (Or.inl ⟨by kernel_rfl, ?h5_0⟩) ?r5_0
          case h5_0 => (intro wt hSw; clear hSw; go_simp; try with_reducible rfl)
          simp only [Act.put, List.setIfInBounds_toArray, List.set_cons_zero, List.set_cons_succ]
          refine wpAnyG_take' (i := 1) (oi := { dst := some 45, op := Go.Op.nilCheck (Go.Operand.tmp 44), type := 0, pos := "heap.go:54", after := #[{ on := 0, ground := Go.Ground.data }], guard := none }) (v := ?v5_1) rfl (by kernel_rfl) (by kernel_rfl) (by kernel_rfl) (fun _ _ _ h => h) (Or.inl ⟨by kernel_rfl, ?h5_1⟩) ?r5_1
          case h5_1 => (intro wt hSw; clear hSw; go_simp; try with_reducible rfl)
          simp only [Act.put, List.setIfInBounds_toArray, List.set_cons_zero, List.set_cons_succ]
          refine wpAnyG_take' (i := 2) (oi := { dst := some 46, op := Go.Op.fieldAddr 36 (Go.Operand.tmp 45) 0, type := 0, pos := "heap.go:54", after := #[{ on := 1, ground := Go.Ground.data }], guard := none }) (v := ?v5_2) rfl (by kernel_rfl) (by kernel_rfl) (by kernel_rfl) (fun _ _ _ h => h) (Or.inl ⟨by kernel_rfl, ?h5_2⟩) ?r5_2
          case h5_2 => (intro wt hSw; clear hSw; go_simp; try with_reducible rfl)
          simp only [Act.put, List.setIfInBounds_toArray, List.set_cons_zero, List.set_cons_succ]
          refine wpAnyG_take (i := 3) (oi := { dst := some 47, op := Go.Op.load 34 (Go.Operand.tmp 46), type := 34, pos := "heap.go:54", after := #[{ on := 2, ground := Go.Ground.data }], guard := none }) (v := ?v5_3) (by kernel_rfl) rfl (by kernel_rfl) (by kernel_rfl) (by kernel_rfl) (by kernel_rfl) (fun _ _ _ h => h) (Or.inl ⟨by kernel_rfl, ?h5_3⟩) (by assumption) ?r5_3
          case h5_3 => (intro wt hSw; (try dsimp only at hSw); subst hSw; go_simp; try rfl)
          simp only [Act.put, List.setIfInBounds_toArray, List.set_cons_zero, List.set_cons_succ]
          refine wpAnyG_take' (i := 4) (oi := { dst := some 48, op := Go.Op.move (Go.Operand.tmp 2), type := 3, pos := "heap.go:54", after := #[], guard := none }) (v := ?v5_4) rfl (by kernel_rfl) (by kernel_rfl) (by kernel_rfl) (fun _ _ _ h => h) (Or.inl ⟨by kernel_rfl, ?h5_4⟩) ?r5_4
          case h5_4 => (intro wt hSw; clear hSw; go_simp; try with_reducible rfl)
          simp only [Act.put, List.setIfInBounds_toArray, List.set_cons_zero, List.set_cons_succ]
          refine wpAnyG_take' (i := 5) (oi := { dst := some 49, op := Go.Op.move (Go.Operand.tmp 0), type := 99, pos := "heap.go:54", after := #[], guard := none }) (v := ?v5_5) rfl (by kernel_rfl) (by kernel_rfl) (by kernel_rfl) (fun _ _ _ h => h) (Or.inl ⟨by kernel_rfl, ?h5_5⟩) ?r5_5
          case h5_5 => (intro wt hSw; clear hSw; go_simp; try with_reducible rfl)
          simp only [Act.put, List.setIfInBounds_toArray, List.set_cons_zero, List.set_cons_succ]
          refine wpAnyG_take' (i := 6) (oi := { dst := some 50, op := Go.Op.nilCheck (Go.Operand.tmp 49), type := 0, pos := "heap.go:54", after := #[{ on := 5, ground := Go.Ground.data }], guard := none }) (v := ?v5_6) rfl (by kernel_rfl) (by kernel_rfl) (by kernel_rfl) (fun _ _ _ h => h) (Or.inl ⟨by kernel_rfl, ?h5_6⟩) ?r5_6
          case h5_6 => (intro wt hSw; clear hSw; go_simp; try with_reducible rfl)
          simp only [Act.put, List.setIfInBounds_toArray, List.set_cons_zero, List.set_cons_succ]
          refine wpAnyG_take' (i := 7) (oi := { dst := some 51, op := Go.Op.fieldAddr 36 (Go.Operand.tmp 50) 0, type := 0, pos := "heap.go:54", after := #[{ on := 6, ground := Go.Ground.data }], guard := none }) (v := ?v5_7) rfl (by kernel_rfl) (by kernel_rfl) (by kernel_rfl) (fun _ _ _ h => h) (Or.inl ⟨by kernel_rfl, ?h5_7⟩) ?r5_7
          case h5_7 => (intro wt hSw; clear hSw; go_simp; try with_reducible rfl)
          simp only [Act.put, List.setIfInBounds_toArray, List.set_cons_zero, List.set_cons_succ]
          refine wpAnyG_take (i := 8) (oi := { dst := some 52, op := Go.Op.load 34 (Go.Operand.tmp 51), type := 34, pos := "heap.go:54", after := #[{ on := 7, ground := Go.Ground.data }], guard := none }) (v := ?v5_8) (by kernel_rfl) rfl (by kernel_rfl) (by kernel_rfl) (by kernel_rfl) (by kernel_rfl) (fun _ _ _ h => h) (Or.inl ⟨by kernel_rfl, ?h5_8⟩) (by assumption) ?r5_8
          case h5_8 => (intro wt hSw; (try dsimp only at hSw); subst hSw; go_simp; try rfl)
          simp only [Act.put, List.setIfInBounds_toArray, List.set_cons_zero, List.set_cons_succ]
          refine wpAnyG_take' (i := 9) (oi := { dst := some 53, op := Go.Op.move (Go.Operand.tmp 3), type := 3, pos := "heap.go:54", after := #[{ on := 25, ground := Go.Ground.gcOnly Go.Departure.lateStores }], guard := none }) (v := ?v5_9) rfl (by kernel_rfl) (by kernel_rfl) (by kernel_rfl) (fun _ _ _ h => h) (Or.inl ⟨by kernel_rfl, ?h5_9⟩) ?r5_9
          case h5_9 => (intro wt hSw; clear hSw; go_simp; try with_reducible rfl)
          simp only [Act.put, List.setIfInBounds_toArray, List.set_cons_zero, List.set_cons_succ]
          refine wpAnyG_take' (i := 10) (oi := { dst := some 54, op := Go.Op.move (Go.Operand.tmp 0), type := 99, pos := "heap.go:54", after := #[], guard := none }) (v := ?v5_10) rfl (by kernel_rfl) (by kernel_rfl) (by kernel_rfl) (fun _ _ _ h => h) (Or.inl ⟨by kernel_rfl, ?h5_10⟩) ?r5_10
          case h5_10 => (intro wt hSw; clear hSw; go_simp; try with_reducible rfl)
          simp only [Act.put, List.setIfInBounds_toArray, List.set_cons_zero, List.set_cons_succ]
          refine wpAnyG_take' (i := 11) (oi := { dst := some 55, op := Go.Op.nilCheck (Go.Operand.tmp 54), type := 0, pos := "heap.go:54", after := #[{ on := 10, ground := Go.Ground.data }], guard := none }) (v := ?v5_11) rfl (by kernel_rfl) (by kernel_rfl) (by kernel_rfl) (fun _ _ _ h => h) (Or.inl ⟨by kernel_rfl, ?h5_11⟩) ?r5_11
          case h5_11 => (intro wt hSw; clear hSw; go_simp; try with_reducible rfl)
          simp only [Act.put, List.setIfInBounds_toArray, List.set_cons_zero, List.set_cons_succ]
          refine wpAnyG_take' (i := 12) (oi := { dst := some 56, op := Go.Op.fieldAddr 36 (Go.Operand.tmp 55) 0, type := 0, pos := "heap.go:54", after := #[{ on := 11, ground := Go.Ground.data }], guard := none }) (v := ?v5_12) rfl (by kernel_rfl) (by kernel_rfl) (by kernel_rfl) (fun _ _ _ h => h) (Or.inl ⟨by kernel_rfl, ?h5_12⟩) ?r5_12
          case h5_12 => (intro wt hSw; clear hSw; go_simp; try with_reducible rfl)
          simp only [Act.put, List.setIfInBounds_toArray, List.set_cons_zero, List.set_cons_succ]
          refine wpAnyG_take (i := 13) (oi := { dst := some 57, op := Go.Op.load 34 (Go.Operand.tmp 56), type := 34, pos := "heap.go:54", after := #[{ on := 12, ground := Go.Ground.data }], guard := none }) (v := ?v5_13) (by kernel_rfl) rfl (by kernel_rfl) (by kernel_rfl) (by kernel_rfl) (by kernel_rfl) (fun _ _ _ h => h) (Or.inl ⟨by kernel_rfl, ?h5_13⟩) (by assumption) ?r5_13
          case h5_13 => (intro wt hSw; (try dsimp only at hSw); subst hSw; go_simp; try rfl)
          simp only [Act.put, List.setIfInBounds_toArray, List.set_cons_zero, List.set_cons_succ]
          refine wpAnyG_take' (i := 14) (oi := { dst := some 58, op := Go.Op.move (Go.Operand.tmp 3), type := 3, pos := "heap.go:54", after := #[], guard := none }) (v := ?v5_14) rfl (by kernel_rfl) (by kernel_rfl) (by kernel_rfl) (fun _ _ _ h => h) (Or.inl ⟨by kernel_rfl, ?h5_14⟩) ?r5_14
          case h5_14 => (intro wt hSw; clear hSw; go_simp; try with_reducible rfl)
          simp only [Act.put, List.setIfInBounds_toArray, List.set_cons_zero, List.set_cons_succ]
          refine wpAnyG_take' (i := 15) (oi := { dst := some 59, op := Go.Op.indexAddr 34 (Go.Operand.tmp 57) (Go.Operand.tmp 58), type := 0, pos := "heap.go:54", after := #[{ on := 13, ground := Go.Ground.data }, { on := 14, ground := Go.Ground.data }], guard := none }) (v := .pointer (some ⟨g, l * 3, none⟩)) rfl (by kernel_rfl) (by kernel_rfl) (by kernel_rfl) (fun _ _ _ h => h) (Or.inl ⟨by kernel_rfl, ?h5_15⟩) ?r5_15
          case h5_15 => (intro wt hSw; clear hSw; go_simp; try with_reducible rfl)
          simp only [Act.put, List.setIfInBounds_toArray, List.set_cons_zero, List.set_cons_succ]
          refine wpAnyG_take (i := 16) (oi := { dst := some 60, op := Go.Op.load 70 (Go.Operand.tmp 59), type := 70, pos := "heap.go:54", after := #[{ on := 15, ground := Go.Ground.data }], guard := none }) (v := .agg (icells y).toArray) (by kernel_rfl) rfl (by kernel_rfl) (by kernel_rfl) (by kernel_rfl) (by kernel_rfl) (fun _ _ _ h => h) (Or.inl ⟨by kernel_rfl, ?h5_16⟩) (by assumption) ?r5_16
          case h5_16 => (intro wt hSw; (try dsimp only at hSw); subst hSw; obtain ⟨l0, l1, l2⟩ := HLY.out; go_simp; try rfl)
          simp only [Act.put, List.setIfInBounds_toArray, List.set_cons_zero, List.set_cons_succ]
          refine wpAnyG_take' (i := 17) (oi := { dst := some 61, op := Go.Op.move (Go.Operand.tmp 0), type := 99, pos := "heap.go:54", after := #[], guard := none }) (v := ?v5_17) rfl (by kernel_rfl) (by kernel_rfl) (by kernel_rfl) (fun _ _ _ h => h) (Or.inl ⟨by kernel_rfl, ?h5_17⟩) ?r5_17
          case h5_17 => (intro wt hSw; clear hSw; go_simp; try with_reducible rfl)
          simp only [Act.put, List.setIfInBounds_toArray, List.set_cons_zero, List.set_cons_succ]
          refine wpAnyG_take' (i := 18) (oi := { dst := some 62, op := Go.Op.nilCheck (Go.Operand.tmp 61), type := 0, pos := "heap.go:54", after := #[{ on := 17, ground := Go.Ground.data }], guard := none }) (v := ?v5_18) rfl (by kernel_rfl) (by kernel_rfl) (by kernel_rfl) (fun _ _ _ h => h) (Or.inl ⟨by kernel_rfl, ?h5_18⟩) ?r5_18
          case h5_18 => (intro wt hSw; clear hSw; go_simp; try with_reducible rfl)
          simp only [Act.put, List.setIfInBounds_toArray, List.set_cons_zero, List.set_cons_succ]
          refine wpAnyG_take' (i := 19) (oi := { dst := some 63, op := Go.Op.fieldAddr 36 (Go.Operand.tmp 62) 0, type := 0, pos := "heap.go:54", after := #[{ on := 18, ground := Go.Ground.data }], guard := none }) (v := ?v5_19) rfl (by kernel_rfl) (by kernel_rfl) (by kernel_rfl) (fun _ _ _ h => h) (Or.inl ⟨by kernel_rfl, ?h5_19⟩) ?r5_19
          case h5_19 => (intro wt hSw; clear hSw; go_simp; try with_reducible rfl)
          simp only [Act.put, List.setIfInBounds_toArray, List.set_cons_zero, List.set_cons_succ]
          refine wpAnyG_take (i := 20) (oi := { dst := some 64, op := Go.Op.load 34 (Go.Operand.tmp 63), type := 34, pos := "heap.go:54", after := #[{ on := 19, ground := Go.Ground.data }], guard := none }) (v := ?v5_20) (by kernel_rfl) rfl (by kernel_rfl) (by kernel_rfl) (by kernel_rfl) (by kernel_rfl) (fun _ _ _ h => h) (Or.inl ⟨by kernel_rfl, ?h5_20⟩) (by assumption) ?r5_20
          case h5_20 => (intro wt hSw; (try dsimp only at hSw); subst hSw; go_simp; try rfl)
          simp only [Act.put, List.setIfInBounds_toArray, List.set_cons_zero, List.set_cons_succ]
          refine wpAnyG_take' (i := 21) (oi := { dst := some 65, op := Go.Op.move (Go.Operand.tmp 2), type := 3, pos := "heap.go:54", after := #[], guard := none }) (v := ?v5_21) rfl (by kernel_rfl) (by kernel_rfl) (by kernel_rfl) (fun _ _ _ h => h) (Or.inl ⟨by kernel_rfl, ?h5_21⟩) ?r5_21
          case h5_21 => (intro wt hSw; clear hSw; go_simp; try with_reducible rfl)
          simp only [Act.put, List.setIfInBounds_toArray, List.set_cons_zero, List.set_cons_succ]
          refine wpAnyG_take' (i := 22) (oi := { dst := some 66, op := Go.Op.indexAddr 34 (Go.Operand.tmp 64) (Go.Operand.tmp 65), type := 0, pos := "heap.go:54", after := #[{ on := 20, ground := Go.Ground.data }, { on := 21, ground := Go.Ground.data }], guard := none }) (v := .pointer (some ⟨g, k * 3, none⟩)) rfl (by kernel_rfl) (by kernel_rfl) (by kernel_rfl) (fun _ _ _ h => h) (Or.inl ⟨by kernel_rfl, ?h5_22⟩) ?r5_22
          case h5_22 => (intro wt hSw; clear hSw; go_simp; try with_reducible rfl)
          simp only [Act.put, List.setIfInBounds_toArray, List.set_cons_zero, List.set_cons_succ]
          refine wpAnyG_take (i := 23) (oi := { dst := some 67, op := Go.Op.load 70 (Go.Operand.tmp 66), type := 70, pos := "heap.go:54", after := #[{ on := 22, ground := Go.Ground.data }], guard := none }) (v := .agg (icells x).toArray) (by kernel_rfl) rfl (by kernel_rfl) (by kernel_rfl) (by kernel_rfl) (by kernel_rfl) (fun _ _ _ h => h) (Or.inl ⟨by kernel_rfl, ?h5_23⟩) (by assumption) ?r5_23
          case h5_23 => (intro wt hSw; (try dsimp only at hSw); subst hSw; obtain ⟨l0, l1, l2⟩ := HLX.out; go_simp; try rfl)
          simp only [Act.put, List.setIfInBounds_toArray, List.set_cons_zero, List.set_cons_succ]
          refine wpAnyG_take' (i := 24) (oi := { dst := some 68, op := Go.Op.indexAddr 34 (Go.Operand.tmp 47) (Go.Operand.tmp 48), type := 0, pos := "heap.go:54", after := #[{ on := 3, ground := Go.Ground.data }, { on := 4, ground := Go.Ground.data }, { on := 0, ground := Go.Ground.phase }, { on := 1, ground := Go.Ground.phase }, { on := 2, ground := Go.Ground.phase }, { on := 3, ground := Go.Ground.phase }, { on := 4, ground := Go.Ground.phase }, { on := 5, ground := Go.Ground.textOnly Go.Departure.lateStores }, { on := 6, ground := Go.Ground.textOnly Go.Departure.lateStoresUnsure }, { on := 7, ground := Go.Ground.textOnly Go.Departure.lateStoresUnsure }, { on := 8, ground := Go.Ground.phase }, { on := 9, ground := Go.Ground.textOnly Go.Departure.lateStores }, { on := 10, ground := Go.Ground.phase }, { on := 11, ground := Go.Ground.phase }, { on := 12, ground := Go.Ground.phase }, { on := 13, ground := Go.Ground.phase }, { on := 14, ground := Go.Ground.phase }, { on := 15, ground := Go.Ground.phase }, { on := 16, ground := Go.Ground.phase }, { on := 17, ground := Go.Ground.textOnly Go.Departure.lateStores }, { on := 18, ground := Go.Ground.textOnly Go.Departure.lateStoresUnsure }, { on := 19, ground := Go.Ground.textOnly Go.Departure.lateStoresUnsure }, { on := 20, ground := Go.Ground.phase }, { on := 21, ground := Go.Ground.textOnly Go.Departure.lateStores }, { on := 22, ground := Go.Ground.textOnly Go.Departure.lateStoresUnsure }, { on := 23, ground := Go.Ground.phase }], guard := none }) (v := .pointer (some ⟨g, k * 3, none⟩)) rfl (by kernel_rfl) (by kernel_rfl) (by kernel_rfl) (fun _ _ _ h => h) (Or.inl ⟨by kernel_rfl, ?h5_24⟩) ?r5_24
          case h5_24 => (intro wt hSw; clear hSw; go_simp; try with_reducible rfl)
          simp only [Act.put, List.setIfInBounds_toArray, List.set_cons_zero, List.set_cons_succ]
          refine wpAnyG_one (i := 25) (o := { dst := none, op := Go.Op.store 70 (Go.Operand.tmp 68) (Go.Operand.tmp 60), type := 0, pos := "heap.go:54", after := #[{ on := 24, ground := Go.Ground.data }, { on := 16, ground := Go.Ground.data }, { on := 0, ground := Go.Ground.phase }, { on := 1, ground := Go.Ground.phase }, { on := 2, ground := Go.Ground.phase }, { on := 3, ground := Go.Ground.phase }, { on := 4, ground := Go.Ground.phase }, { on := 5, ground := Go.Ground.textOnly Go.Departure.lateStores }, { on := 6, ground := Go.Ground.textOnly Go.Departure.lateStoresUnsure }, { on := 7, ground := Go.Ground.textOnly Go.Departure.lateStoresUnsure }, { on := 8, ground := Go.Ground.phase }, { on := 9, ground := Go.Ground.textOnly Go.Departure.lateStores }, { on := 10, ground := Go.Ground.phase }, { on := 11, ground := Go.Ground.phase }, { on := 12, ground := Go.Ground.phase }, { on := 13, ground := Go.Ground.phase }, { on := 14, ground := Go.Ground.phase }, { on := 15, ground := Go.Ground.phase }, { on := 16, ground := Go.Ground.phase }, { on := 17, ground := Go.Ground.textOnly Go.Departure.lateStores }, { on := 18, ground := Go.Ground.textOnly Go.Departure.lateStoresUnsure }, { on := 19, ground := Go.Ground.textOnly Go.Departure.lateStoresUnsure }, { on := 20, ground := Go.Ground.phase }, { on := 21, ground := Go.Ground.textOnly Go.Departure.lateStores }, { on := 22, ground := Go.Ground.textOnly Go.Departure.lateStoresUnsure }, { on := 23, ground := Go.Ground.phase }], guard := none }) rfl (by kernel_rfl) (by kernel_rfl) ?_
          refine step_storeI_b (it := y) (b := g) (j := k * 3) rfl rfl rfl HTX.out hoy ?_
          refine ⟨fun h => absurd (by simp) h, ?_⟩
          simp only [Act.put]
          refine wpAnyG_take' (i := 26) (oi := { dst := some 69, op := Go.Op.indexAddr 34 (Go.Operand.tmp 52) (Go.Operand.tmp 53), type := 0, pos := "heap.go:54", after := #[{ on := 8, ground := Go.Ground.data }, { on := 9, ground := Go.Ground.data }, { on := 0, ground := Go.Ground.phase }, { on := 1, ground := Go.Ground.phase }, { on := 2, ground := Go.Ground.phase }, { on := 3, ground := Go.Ground.phase }, { on := 4, ground := Go.Ground.phase }, { on := 5, ground := Go.Ground.phase }, { on := 6, ground := Go.Ground.phase }, { on := 7, ground := Go.Ground.phase }, { on := 8, ground := Go.Ground.phase }, { on := 9, ground := Go.Ground.phase }, { on := 10, ground := Go.Ground.phase }, { on := 11, ground := Go.Ground.phase }, { on := 12, ground := Go.Ground.phase }, { on := 13, ground := Go.Ground.phase }, { on := 14, ground := Go.Ground.phase }, { on := 15, ground := Go.Ground.phase }, { on := 16, ground := Go.Ground.phase }, { on := 17, ground := Go.Ground.phase }, { on := 18, ground := Go.Ground.phase }, { on := 19, ground := Go.Ground.phase }, { on := 20, ground := Go.Ground.phase }, { on := 21, ground := Go.Ground.phase }, { on := 22, ground := Go.Ground.phase }, { on := 23, ground := Go.Ground.phase }, { on := 24, ground := Go.Ground.phase }, { on := 25, ground := Go.Ground.phase }], guard := none }) (v := .pointer (some ⟨g, l * 3, none⟩)) rfl (by kernel_rfl) (by kernel_rfl) (by kernel_rfl) (fun _ _ _ h => h) (Or.inl ⟨by kernel_rfl, ?h5_26⟩) ?r5_26
          case h5_26 => (intro wt hSw; clear hSw; go_simp; try with_reducible rfl)
          simp only [Act.put, List.setIfInBounds_toArray, List.set_cons_zero, List.set_cons_succ]
          refine wpAnyG_one (i := 27) (o := { dst := none, op := Go.Op.store 70 (Go.Operand.tmp 69) (Go.Operand.tmp 67), type := 0, pos := "heap.go:54", after := #[{ on := 26, ground := Go.Ground.data }, { on := 23, ground := Go.Ground.data }, { on := 25, ground := Go.Ground.chain }, { on := 0, ground := Go.Ground.phase }, { on := 1, ground := Go.Ground.phase }, { on := 2, ground := Go.Ground.phase }, { on := 3, ground := Go.Ground.phase }, { on := 4, ground := Go.Ground.phase }, { on := 5, ground := Go.Ground.phase }, { on := 6, ground := Go.Ground.phase }, { on := 7, ground := Go.Ground.phase }, { on := 8, ground := Go.Ground.phase }, { on := 9, ground := Go.Ground.phase }, { on := 10, ground := Go.Ground.phase }, { on := 11, ground := Go.Ground.phase }, { on := 12, ground := Go.Ground.phase }, { on := 13, ground := Go.Ground.phase }, { on := 14, ground := Go.Ground.phase }, { on := 15, ground := Go.Ground.phase }, { on := 16, ground := Go.Ground.phase }, { on := 17, ground := Go.Ground.phase }, { on := 18, ground := Go.Ground.phase }, { on := 19, ground := Go.Ground.phase }, { on := 20, ground := Go.Ground.phase }, { on := 21, ground := Go.Ground.phase }, { on := 22, ground := Go.Ground.phase }, { on := 23, ground := Go.Ground.phase }, { on := 24, ground := Go.Ground.phase }, { on := 25, ground := Go.Ground.phase }], guard := none }) rfl (by kernel_rfl) (by kernel_rfl) ?_
          refine step_storeI_b (it := x) (b := g) (j := l * 3) rfl rfl rfl (World.there_setCells HTY.out _ _ _) hox ?_
          refine ⟨fun h => absurd (by simp) h, ?_⟩
          simp only [Act.put]
          refine wpAnyG_done (by kernel_rfl) ?_ _
          clear hHeld HLX HLY HTX HTY HI7
          generalize (wr.drew.setCells g (k * 3) (icells y)).setCells g (l * 3) (icells x) = w9 at *
          go_wp2_with fail
          go_roundw
          case rel => exact ⟨l, _, by go_num, HT.out.1, HF6.out.trans HT.out.2 (fun _ e => .inl e)⟩
          case measure => simp [intOf]; have := HMS.out; omega
end Go.Proofs.Ytoeldomhkeancaa
