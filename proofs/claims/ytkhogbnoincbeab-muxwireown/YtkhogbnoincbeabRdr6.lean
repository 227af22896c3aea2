import Derived.Test.YtkhogbnoincbeabRdr5b
namespace Go.Proofs.Ytkhogbnoincbeab
open Go.RowKit Go.Maps Go.Sort
set_option maxRecDepth 100000

/-- What Next answers of the bytes L that are left. -/
def NxAns (B : Nat) (w : World) (q p : Nat) (v : Value) (all : List (BitVec 8)) (left : Nat) (at_ : Int) (L : List (BitVec 8)) (e : Ending) (w' : World) : Prop :=
  ((allA PF.zero L).1 = 0 ∧ ∃ a9 n9 c9 v' all', e = .returned (.tuple #[.agg #[.int .i64 (takeG L).k, .int .u64 (takeG L).s, .int .u64 (takeG L).n, .int .i64 (takeG L).c, .int .i64 (takeG L).h, .slice a9 n9 c9], .bool true, .int .i64 0]) ∧ Dt w' w.heap.size (.slice a9 n9 c9) (takeG L).bs ∧ v'.ownBlock = v.ownBlock ∧ Rdr B w' q p v' all' (left - takeN L) (at_ + takeN L) 0 ∧ all'.drop (all'.length - (left - takeN L)) = L.drop (takeN L) ∧ all'.length ≤ all.length ∧ Fr (fun x => x = q ∨ x = p ∨ v.ownBlock = some x) w w') ∨
  ((allA PF.zero L).1 = 174 ∧ e = .returned (.tuple #[zfr, .bool false, .int .i64 0]) ∧ Rdr B w' q p v all left at_ 0 ∧ Fr (fun x => x = p) w w') ∨
  (¬ (allA PF.zero L).1 = 0 ∧ ¬ (allA PF.zero L).1 = 174 ∧ e = .returned (.tuple #[zfr, .bool false, .int .i64 (allA PF.zero L).1]) ∧ RdrF B w' q (.pointer (some ⟨p, 0, none⟩)) left at_ (allA PF.zero L).1 ∧ Fr (fun x => x = q ∨ x = p) w w')
theorem own_lt' {w : World} {B : Nat} {v : Value} {l : List (BitVec 8)} (h : OwnBy w B v l) {x : Nat} (hx : v.ownBlock = some x) : x < w.heap.size := by
  rcases h.2 with ⟨rfl, _⟩ | ⟨g, cap, cur, rfl, _, h2, _⟩
  · simp [Value.ownBlock] at hx
  · simp [Value.ownBlock] at hx
    subst hx
    exact (Array.getElem?_eq_some_iff.1 h2).1
theorem bytes_drop {W : World} {g x : Nat} {all : List (BitVec 8)} (h : BytesAt W (some ⟨g, 0, none⟩) all) : BytesAt W (some ⟨g, x, none⟩) (all.drop x) := fun k hk => by
  have hk' : x + k < all.length := by rw [List.length_drop] at hk; omega
  obtain ⟨g1, o1, e1, c1⟩ := h (x + k) hk'
  cases e1
  refine ⟨g, x, rfl, ?_⟩
  rw [List.getElem_drop]
  rw [Nat.zero_add] at c1
  exact c1
set_option maxHeartbeats 8000000 in
theorem next_some {B : Nat} {w : World} {q p : Nat} {v : Value} {all : List (BitVec 8)} {left : Nat} {at_ : Int} (H : Rdr B w q p v all left at_ 0) {L : List (BitVec 8)} (hL : all.drop (all.length - left) = L) (ha : 0 ≤ at_ ∧ at_ + left < 18446744073709551616) (hl : all.length ≤ 140737488355328) (hv : v.ownBlock ≠ none) :
    Calls Try.prog 10 #[.pointer (some ⟨q, 0, none⟩)] w (NxAns B w q p v all left at_ L) := by
  obtain ⟨b0, hb0⟩ : ∃ b0, b0 = w.heap.size := ⟨_, rfl⟩
  obtain ⟨w1, hw1⟩ : ∃ w1, w1 = w.alloc (.cells #[.int .i64 0, .int .u64 0, .int .u64 0, .int .i64 0, .int .i64 0, .slice none 0 0] 41) := ⟨_, rfl⟩
  have hb1 : Below w.heap.size w w1 := by rw [hw1]; exact below_new _ _
  have hz1 : w1.heap.size = b0 + 1 := by rw [hw1, hb0]; simp
  have R1 : Row w1 b0 [.int .i64 0, .int .u64 0, .int .u64 0, .int .i64 0, .int .i64 0, .slice none 0 0] 41 := by rw [hw1, hb0]; exact Row.new _ _ _
  have HH := hid H
  have H1 := hid (H.kept hb1)
  have hLl : L.length = left := by rw [← hL, List.length_drop]; have := H.le; omega
  have hTR : (allA PF.zero L).1 = 0 → 0 < takeN L ∧ takeN L ≤ left := fun h => by have := take_rest h; omega
  obtain ⟨g, k0, rfl, hk0, hkm⟩ : ∃ g k0, v = .slice (some ⟨g, 0, none⟩) all.length k0 ∧ all.length ≤ k0 ∧ k0 ≤ maxLen := by
    rcases H.own.2 with ⟨rfl, _⟩ | ⟨g0, k0, cur, e, _, _, h1, h2, _⟩
    · exact absurd rfl hv
    · exact ⟨g0, k0, e, h1, h2⟩
  obtain ⟨x, hx⟩ : ∃ x, x = all.length - left := ⟨_, rfl⟩
  have hxl : x + left = all.length := by have := H.le; omega
  obtain ⟨ta, hta⟩ : ∃ ta, (if k0 = x then some (⟨g, 0, none⟩ : Addr) else some ⟨g, x, none⟩) = ta := ⟨_, rfl⟩
  obtain ⟨tc, htc⟩ : ∃ tc, k0 - x = tc := ⟨_, rfl⟩
  have hLf : ∀ W, Below w1.heap.size w1 W → Lf W p (.slice ta left tc) L := fun W hW => by
    have hBy : BytesAt W (some ⟨g, 0, none⟩) all := by
      obtain ⟨a', cap', e, hb, _⟩ := ownBy_shape (own_below H1.out.own hW)
      cases e
      exact hb
    have hBd : BytesAt W (some ⟨g, x, none⟩) L := by rw [← hL, ← hx]; exact bytes_drop hBy
    refine ⟨ta, tc, by rw [hLl], fun k hk => ?_, by omega, fun e => ?_, fun g' o e hpos e2 => ?_⟩
    · have hxk : ¬ k0 = x := by omega
      rw [← hta, if_neg hxk]
      exact hBd k hk
    · rw [← hta] at e
      split at e <;> cases e
    · have : g' = g := by rw [← hta] at e; split at e <;> (cases e; rfl)
      subst this
      have := own_type (own_below H1.out.own hW) rfl (by rw [e2]; exact (H1.out.sc.kept hW).row)
      cases this
  have r5 : IntKind.i64.wrap ((all.length : Int) - (left : Int)) = (x : Int) := by rw [IntKind.wrap_i64]; omega
  have i1 : (x : Int) ≤ (all.length : Int) := by omega
  have i2 : (all.length : Int) ≤ (k0 : Int) := by omega
  have i3 : (0 : Int) ≤ (x : Int) := by omega
  have b1 : x ≤ all.length := by omega
  have b2 : all.length ≤ k0 := hk0
  have b3 : x ≤ k0 := by omega
  have b4 : all.length - x = left := by omega
  obtain ⟨vv, hvv⟩ : ∃ vv, vv = Value.slice (some (⟨g, 0, none⟩ : Addr)) all.length k0 := ⟨_, rfl⟩
  have hT : ∀ W, Below w1.heap.size w1 W → Calls Try.prog 25 #[.pointer (some ⟨p, 0, none⟩), .slice ta left tc] W fun e w' => ∃ a9 n9 c9, e = .returned (.tuple #[.agg #[.int .i64 (takeG L).k, .int .u64 (takeG L).s, .int .u64 (takeG L).n, .int .i64 (takeG L).c, .int .i64 (takeG L).h, .slice a9 n9 c9], .int .i64 ((takeN L : Nat) : Int), .int .i64 (allA PF.zero L).1]) ∧ Sc w' p (.slice none 0 0) 0 0 0 0 0 (.slice none 0 0) ∧ Fr (fun x => x = p) W w' ∧ Dt w' W.heap.size (.slice a9 n9 c9) (takeG L).bs := fun W hW => take_all (H1.out.sc.kept hW) (hLf W hW)
  obtain ⟨tn, htn⟩ : ∃ tn, takeN L = tn := ⟨_, rfl⟩
  obtain ⟨er, her⟩ : ∃ er, (allA PF.zero L).1 = er := ⟨_, rfl⟩
  obtain ⟨G, hG⟩ : ∃ G, takeG L = G := ⟨_, rfl⟩
  rw [htn, her, hG] at hT
  have hHP : H1.out.sc.row.lt = H1.out.sc.row.lt := rfl
  have hpl := HH.out.sc.lt
  have HNXT : Hid (∀ W, Below w1.heap.size w1 W → ∀ bx (hbx : w1.heap.size ≤ bx), True) := fun _ _ _ _ => trivial
  have HT : Hid (∀ W, Below w1.heap.size w1 W → Calls Try.prog 25 #[.pointer (some ⟨p, 0, none⟩), .slice ta left tc] W fun e w' => ∃ v, e = .returned v ∧ ∃ a9 n9 c9, v = .tuple #[.agg #[.int .i64 G.k, .int .u64 G.s, .int .u64 G.n, .int .i64 G.c, .int .i64 G.h, .slice a9 n9 c9], .int .i64 ((tn : Nat) : Int), .int .i64 er] ∧ Rdr B w' q p (.slice (some ⟨g, 0, none⟩) all.length k0) all left at_ 0 ∧ Fr (fun x => x = p) W w' ∧ Dt w' w.heap.size (.slice a9 n9 c9) G.bs ∧ Row w' b0 [.int .i64 0, .int .u64 0, .int .u64 0, .int .i64 0, .int .i64 0, .slice none 0 0] 41) := fun W hW => (hT W hW).mono (by
    rintro e w' ⟨a9, n9, c9, rfl, k1, k2, k3⟩
    refine ⟨_, rfl, a9, n9, c9, rfl, (H1.out.kept hW).took k2 k1, k2, k3.less (Nat.le_trans hb1.size hW.size), k2.row (R1.kept hW R1.lt) (fun e => ?_)⟩
    have := row_type (by rw [← e]; exact R1) H1.out.sc.row
    cases this)
  have c0 := H1.out.row.cell 0 _ rfl
  have c1 := H1.out.row.cell 1 _ rfl
  have c2 := H1.out.row.cell 2 _ rfl
  have c4 : (w.alloc (.cells #[.int .i64 0, .int .u64 0, .int .u64 0, .int .i64 0, .int .i64 0, .slice none 0 0] 41)).cell? ⟨q, 4, none⟩ = some (.int .i64 0) := by rw [← hw1]; exact H1.out.row.cell 4 _ rfl
  have HR1 := hid R1
  have HB1 := hid hb1
  have HB0 := hid hb0
  have HW1 := hid hw1
  have HZ1 := hid hz1
  have HLL := hid hLl
  have HLE := hid hL
  have HA := hid ha
  have HL := hid hl
  have HTN := hid htn
  have HER := hid her
  have HG := hid hG
  have HTR := hid hTR
  have HPL := hid hpl
  clear H hb1 R1 hLf hLl hL hv ha hl hb0 hw1 hz1 hT htn her hG hTR hpl hHP HNXT hx hxl hvv vv
  go_enter Try.func10, Try.ntmps10
  go_upto_region 3 with fail
  rw [← HW1.out, ← HB0.out]
  go_cut [5, 6, 7] from 18 to 60 (fun s5 s6 s7 wc => ∃ bx a9 n9 c9, s5 = .pointer (some ⟨bx, 0, none⟩) ∧ s6 = .int .i64 ((tn : Nat) : Int) ∧ s7 = .int .i64 er ∧ Nx B w q p b0 bx (.slice (some ⟨g, 0, none⟩) all.length k0) all left at_ G (.slice a9 n9 c9) wc)
  case first =>
    refine wp_region_last (S := fun W => W.cell? ⟨q, 0, none⟩ = some (.pointer (some ⟨p, 0, none⟩)) ∧ W.cell? ⟨q, 1, none⟩ = some (.slice (some ⟨g, 0, none⟩) all.length k0) ∧ W.cell? ⟨q, 2, none⟩ = some (.int .i64 (left : Int))) (N := 27) (by kernel_rfl) (by kernel_rfl) fun hNW => ?_
    have hHeld := (show (fun W => W.cell? ⟨q, 0, none⟩ = some (.pointer (some ⟨p, 0, none⟩)) ∧ W.cell? ⟨q, 1, none⟩ = some (.slice (some ⟨g, 0, none⟩) all.length k0) ∧ W.cell? ⟨q, 2, none⟩ = some (.int .i64 (left : Int))) w1.drew from ⟨c0, c1, c2⟩)
    refine wpAnyF_take (i := 0) (oi := { dst := some 19, op := Go.Op.move (Go.Operand.tmp 0), type := 23, pos := "reader.go:30", after := #[], guard := none }) (v := ?v1_0) hNW (by decide) rfl (by kernel_rfl) (by kernel_rfl) (by kernel_rfl) (by kernel_rfl) (fun _ _ _ h => h) (Or.inl ⟨by kernel_rfl, ?h1_0⟩) (by assumption) ?r1_0
    case h1_0 => (intro wt hSw; (try dsimp only at hSw); go_simp; try with_reducible rfl)
    simp only [Act.put, List.setIfInBounds_toArray, List.set_cons_zero, List.set_cons_succ]
    refine wpAnyF_take (i := 1) (oi := { dst := some 20, op := Go.Op.nilCheck (Go.Operand.tmp 19), type := 0, pos := "reader.go:30", after := #[{ on := 0, ground := Go.Ground.data }], guard := none }) (v := ?v2_1) hNW (by decide) rfl (by kernel_rfl) (by kernel_rfl) (by kernel_rfl) (by kernel_rfl) (fun _ _ _ h => h) (Or.inl ⟨by kernel_rfl, ?h2_1⟩) (by assumption) ?r2_1
    case h2_1 => (intro wt hSw; (try dsimp only at hSw); go_simp; try with_reducible rfl)
    simp only [Act.put, List.setIfInBounds_toArray, List.set_cons_zero, List.set_cons_succ]
    refine wpAnyF_take (i := 2) (oi := { dst := some 21, op := Go.Op.fieldAddr 63 (Go.Operand.tmp 20) 0, type := 0, pos := "reader.go:30", after := #[{ on := 1, ground := Go.Ground.data }], guard := none }) (v := ?v3_2) hNW (by decide) rfl (by kernel_rfl) (by kernel_rfl) (by kernel_rfl) (by kernel_rfl) (fun _ _ _ h => h) (Or.inl ⟨by kernel_rfl, ?h3_2⟩) (by assumption) ?r3_2
    case h3_2 => (intro wt hSw; (try dsimp only at hSw); go_simp; try with_reducible rfl)
    simp only [Act.put, List.setIfInBounds_toArray, List.set_cons_zero, List.set_cons_succ]
    refine wpAnyF_take (i := 3) (oi := { dst := some 22, op := Go.Op.load 60 (Go.Operand.tmp 21), type := 60, pos := "reader.go:30", after := #[{ on := 2, ground := Go.Ground.data }], guard := none }) (v := ?v4_3) hNW (by decide) rfl (by kernel_rfl) (by kernel_rfl) (by kernel_rfl) (by kernel_rfl) (fun _ _ _ h => h) (Or.inl ⟨by kernel_rfl, ?h4_3⟩) (by assumption) ?r4_3
    case h4_3 => (intro wt hSw; (try dsimp only at hSw); go_simp; try with_reducible rfl)
    simp only [Act.put, List.setIfInBounds_toArray, List.set_cons_zero, List.set_cons_succ]
    refine wpAnyF_take (i := 4) (oi := { dst := some 23, op := Go.Op.move (Go.Operand.tmp 0), type := 23, pos := "reader.go:30", after := #[], guard := none }) (v := ?v5_4) hNW (by decide) rfl (by kernel_rfl) (by kernel_rfl) (by kernel_rfl) (by kernel_rfl) (fun _ _ _ h => h) (Or.inl ⟨by kernel_rfl, ?h5_4⟩) (by assumption) ?r5_4
    case h5_4 => (intro wt hSw; (try dsimp only at hSw); go_simp; try with_reducible rfl)
    simp only [Act.put, List.setIfInBounds_toArray, List.set_cons_zero, List.set_cons_succ]
    refine wpAnyF_take (i := 5) (oi := { dst := some 24, op := Go.Op.nilCheck (Go.Operand.tmp 23), type := 0, pos := "reader.go:30", after := #[{ on := 4, ground := Go.Ground.data }], guard := none }) (v := ?v6_5) hNW (by decide) rfl (by kernel_rfl) (by kernel_rfl) (by kernel_rfl) (by kernel_rfl) (fun _ _ _ h => h) (Or.inl ⟨by kernel_rfl, ?h6_5⟩) (by assumption) ?r6_5
    case h6_5 => (intro wt hSw; (try dsimp only at hSw); go_simp; try with_reducible rfl)
    simp only [Act.put, List.setIfInBounds_toArray, List.set_cons_zero, List.set_cons_succ]
    refine wpAnyF_take (i := 6) (oi := { dst := some 25, op := Go.Op.fieldAddr 63 (Go.Operand.tmp 24) 1, type := 0, pos := "reader.go:30", after := #[{ on := 5, ground := Go.Ground.data }], guard := none }) (v := ?v7_6) hNW (by decide) rfl (by kernel_rfl) (by kernel_rfl) (by kernel_rfl) (by kernel_rfl) (fun _ _ _ h => h) (Or.inl ⟨by kernel_rfl, ?h7_6⟩) (by assumption) ?r7_6
    case h7_6 => (intro wt hSw; (try dsimp only at hSw); go_simp; try with_reducible rfl)
    simp only [Act.put, List.setIfInBounds_toArray, List.set_cons_zero, List.set_cons_succ]
    refine wpAnyF_take (i := 7) (oi := { dst := some 26, op := Go.Op.load 27 (Go.Operand.tmp 25), type := 27, pos := "reader.go:30", after := #[{ on := 6, ground := Go.Ground.data }], guard := none }) (v := ?v8_7) hNW (by decide) rfl (by kernel_rfl) (by kernel_rfl) (by kernel_rfl) (by kernel_rfl) (fun _ _ _ h => h) (Or.inl ⟨by kernel_rfl, ?h8_7⟩) (by assumption) ?r8_7
    case h8_7 => (intro wt hSw; (try dsimp only at hSw); go_simp; try with_reducible rfl)
    simp only [Act.put, List.setIfInBounds_toArray, List.set_cons_zero, List.set_cons_succ]
    refine wpAnyF_take (i := 8) (oi := { dst := some 27, op := Go.Op.move (Go.Operand.tmp 0), type := 23, pos := "reader.go:30", after := #[], guard := none }) (v := ?v9_8) hNW (by decide) rfl (by kernel_rfl) (by kernel_rfl) (by kernel_rfl) (by kernel_rfl) (fun _ _ _ h => h) (Or.inl ⟨by kernel_rfl, ?h9_8⟩) (by assumption) ?r9_8
    case h9_8 => (intro wt hSw; (try dsimp only at hSw); go_simp; try with_reducible rfl)
    simp only [Act.put, List.setIfInBounds_toArray, List.set_cons_zero, List.set_cons_succ]
    refine wpAnyF_take (i := 9) (oi := { dst := some 28, op := Go.Op.nilCheck (Go.Operand.tmp 27), type := 0, pos := "reader.go:30", after := #[{ on := 8, ground := Go.Ground.data }], guard := none }) (v := ?v10_9) hNW (by decide) rfl (by kernel_rfl) (by kernel_rfl) (by kernel_rfl) (by kernel_rfl) (fun _ _ _ h => h) (Or.inl ⟨by kernel_rfl, ?h10_9⟩) (by assumption) ?r10_9
    case h10_9 => (intro wt hSw; (try dsimp only at hSw); go_simp; try with_reducible rfl)
    simp only [Act.put, List.setIfInBounds_toArray, List.set_cons_zero, List.set_cons_succ]
    refine wpAnyF_take (i := 10) (oi := { dst := some 29, op := Go.Op.fieldAddr 63 (Go.Operand.tmp 28) 1, type := 0, pos := "reader.go:30", after := #[{ on := 9, ground := Go.Ground.data }], guard := none }) (v := ?v11_10) hNW (by decide) rfl (by kernel_rfl) (by kernel_rfl) (by kernel_rfl) (by kernel_rfl) (fun _ _ _ h => h) (Or.inl ⟨by kernel_rfl, ?h11_10⟩) (by assumption) ?r11_10
    case h11_10 => (intro wt hSw; (try dsimp only at hSw); go_simp; try with_reducible rfl)
    simp only [Act.put, List.setIfInBounds_toArray, List.set_cons_zero, List.set_cons_succ]
    refine wpAnyF_take (i := 11) (oi := { dst := some 30, op := Go.Op.load 27 (Go.Operand.tmp 29), type := 27, pos := "reader.go:30", after := #[{ on := 10, ground := Go.Ground.data }], guard := none }) (v := ?v12_11) hNW (by decide) rfl (by kernel_rfl) (by kernel_rfl) (by kernel_rfl) (by kernel_rfl) (fun _ _ _ h => h) (Or.inl ⟨by kernel_rfl, ?h12_11⟩) (by assumption) ?r12_11
    case h12_11 => (intro wt hSw; (try dsimp only at hSw); go_simp; try with_reducible rfl)
    simp only [Act.put, List.setIfInBounds_toArray, List.set_cons_zero, List.set_cons_succ]
    refine wpAnyF_take (i := 12) (oi := { dst := some 31, op := Go.Op.call { callee := Go.Callee.builtin Go.Builtin.len, args := #[Go.Operand.tmp 30], argTypes := #[27] }, type := 3, pos := "reader.go:30", after := #[{ on := 11, ground := Go.Ground.data }], guard := none }) (v := ?v13_12) hNW (by decide) rfl (by kernel_rfl) (by kernel_rfl) (by kernel_rfl) (by kernel_rfl) (fun _ _ _ h => h) (Or.inl ⟨by kernel_rfl, ?h13_12⟩) (by assumption) ?r13_12
    case h13_12 => (intro wt hSw; (try dsimp only at hSw); go_simp; try with_reducible rfl)
    simp only [Act.put, List.setIfInBounds_toArray, List.set_cons_zero, List.set_cons_succ]
    refine wpAnyF_take (i := 13) (oi := { dst := some 32, op := Go.Op.move (Go.Operand.tmp 0), type := 23, pos := "reader.go:30", after := #[], guard := none }) (v := ?v14_13) hNW (by decide) rfl (by kernel_rfl) (by kernel_rfl) (by kernel_rfl) (by kernel_rfl) (fun _ _ _ h => h) (Or.inl ⟨by kernel_rfl, ?h14_13⟩) (by assumption) ?r14_13
    case h14_13 => (intro wt hSw; (try dsimp only at hSw); go_simp; try with_reducible rfl)
    simp only [Act.put, List.setIfInBounds_toArray, List.set_cons_zero, List.set_cons_succ]
    refine wpAnyF_take (i := 14) (oi := { dst := some 33, op := Go.Op.nilCheck (Go.Operand.tmp 32), type := 0, pos := "reader.go:30", after := #[{ on := 13, ground := Go.Ground.data }], guard := none }) (v := ?v15_14) hNW (by decide) rfl (by kernel_rfl) (by kernel_rfl) (by kernel_rfl) (by kernel_rfl) (fun _ _ _ h => h) (Or.inl ⟨by kernel_rfl, ?h15_14⟩) (by assumption) ?r15_14
    case h15_14 => (intro wt hSw; (try dsimp only at hSw); go_simp; try with_reducible rfl)
    simp only [Act.put, List.setIfInBounds_toArray, List.set_cons_zero, List.set_cons_succ]
    refine wpAnyF_take (i := 15) (oi := { dst := some 34, op := Go.Op.fieldAddr 63 (Go.Operand.tmp 33) 2, type := 0, pos := "reader.go:30", after := #[{ on := 14, ground := Go.Ground.data }], guard := none }) (v := ?v16_15) hNW (by decide) rfl (by kernel_rfl) (by kernel_rfl) (by kernel_rfl) (by kernel_rfl) (fun _ _ _ h => h) (Or.inl ⟨by kernel_rfl, ?h16_15⟩) (by assumption) ?r16_15
    case h16_15 => (intro wt hSw; (try dsimp only at hSw); go_simp; try with_reducible rfl)
    simp only [Act.put, List.setIfInBounds_toArray, List.set_cons_zero, List.set_cons_succ]
    refine wpAnyF_take (i := 16) (oi := { dst := some 35, op := Go.Op.load 3 (Go.Operand.tmp 34), type := 3, pos := "reader.go:30", after := #[{ on := 15, ground := Go.Ground.data }], guard := none }) (v := ?v17_16) hNW (by decide) rfl (by kernel_rfl) (by kernel_rfl) (by kernel_rfl) (by kernel_rfl) (fun _ _ _ h => h) (Or.inl ⟨by kernel_rfl, ?h17_16⟩) (by assumption) ?r17_16
    case h17_16 => (intro wt hSw; (try dsimp only at hSw); go_simp; try with_reducible rfl)
    simp only [Act.put, List.setIfInBounds_toArray, List.set_cons_zero, List.set_cons_succ]
    refine wpAnyF_take (i := 17) (oi := { dst := some 36, op := Go.Op.binOp Go.BinOp.sub 3 (Go.Operand.tmp 31) (Go.Operand.tmp 35) 3, type := 3, pos := "reader.go:30", after := #[{ on := 12, ground := Go.Ground.data }, { on := 16, ground := Go.Ground.data }], guard := none }) (v := .int .i64 (x : Int)) hNW (by decide) rfl (by kernel_rfl) (by kernel_rfl) (by kernel_rfl) (by kernel_rfl) (fun _ _ _ h => h) (Or.inl ⟨by kernel_rfl, ?h18_17⟩) (by assumption) ?r18_17
    case h18_17 => (intro wt hSw; (try dsimp only at hSw); go_simp; try simp only [r5])
    simp only [Act.put, List.setIfInBounds_toArray, List.set_cons_zero, List.set_cons_succ]
    refine wpAnyF_take (i := 18) (oi := { dst := some 37, op := Go.Op.slice 27 (Go.Operand.tmp 26) (some (Go.Operand.tmp 36)) none none, type := 27, pos := "reader.go:30", after := #[{ on := 7, ground := Go.Ground.data }, { on := 17, ground := Go.Ground.data }], guard := none }) (v := .slice ta left tc) hNW (by decide) rfl (by kernel_rfl) (by kernel_rfl) (by kernel_rfl) (by kernel_rfl) (fun _ _ _ h => h) (Or.inl ⟨by kernel_rfl, ?h19_18⟩) (by assumption) ?r19_18
    case h19_18 => (intro wt hSw; (try dsimp only at hSw); go_simp; try simp only [hta, htc, b4])
    simp only [Act.put, List.setIfInBounds_toArray, List.set_cons_zero, List.set_cons_succ]
    refine wpAnyF_two (i := 19) (j := 24) (o := { dst := some 38, op := Go.Op.call { callee := Go.Callee.value (Go.Operand.func 25), args := #[Go.Operand.tmp 22, Go.Operand.tmp 37], argTypes := #[60, 27] }, type := 56, pos := "reader.go:30", after := #[{ on := 3, ground := Go.Ground.data }, { on := 18, ground := Go.Ground.data }], guard := none }) (o' := { dst := some 5, op := Go.Op.alloc 41, type := 0, pos := "reader.go:30", after := #[], guard := none }) rfl rfl rfl rfl (by kernel_rfl) ?_ ?_
    · refine step_callx (f := 25) (args := #[.pointer (some ⟨p, 0, none⟩), .slice ta left tc]) (by first | kernel_rfl | go_simp) (HT.out _ (Below.refl _ _).drew) ?_
      rintro v2 w2 ⟨a9, n9, c9, rfl, hR2, hF2, hD2, hb2⟩
      have hz2 := hF2.size
      have k0' := hR2.row.cell 0 _ rfl
      have k1' := hR2.row.cell 1 _ rfl
      have k2' := hR2.row.cell 2 _ rfl
      have hHeld2 := (show (fun W => W.cell? ⟨q, 0, none⟩ = some (.pointer (some ⟨p, 0, none⟩)) ∧ W.cell? ⟨q, 1, none⟩ = some (.slice (some ⟨g, 0, none⟩) all.length k0) ∧ W.cell? ⟨q, 2, none⟩ = some (.int .i64 (left : Int))) w2 from ⟨k0', k1', k2'⟩)
      refine ⟨fun _ => hHeld2, ?_⟩
      simp only [Act.put, List.setIfInBounds_toArray, List.set_cons_zero, List.set_cons_succ]
      refine wpAnyF_take (i := 20) (oi := { dst := some 18, op := Go.Op.move (Go.Operand.tmp 38), type := 56, pos := "reader.go:30", after := #[{ on := 19, ground := Go.Ground.data }], guard := none }) (v := ?v20_20) hNW (by decide) rfl (by kernel_rfl) (by kernel_rfl) (by kernel_rfl) (by kernel_rfl) (fun _ _ _ h => h) (Or.inl ⟨by kernel_rfl, ?h20_20⟩) (by assumption) ?r20_20
      case h20_20 => (intro wt hSw; (try dsimp only at hSw); go_simp; try with_reducible rfl)
      simp only [Act.put, List.setIfInBounds_toArray, List.set_cons_zero, List.set_cons_succ]
      refine wpAnyF_take (i := 21) (oi := { dst := some 39, op := Go.Op.extract (Go.Operand.tmp 18) 0, type := 41, pos := "reader.go:30", after := #[{ on := 20, ground := Go.Ground.data }], guard := none }) (v := ?v21_21) hNW (by decide) rfl (by kernel_rfl) (by kernel_rfl) (by kernel_rfl) (by kernel_rfl) (fun _ _ _ h => h) (Or.inl ⟨by kernel_rfl, ?h21_21⟩) (by assumption) ?r21_21
      case h21_21 => (intro wt hSw; (try dsimp only at hSw); go_simp; try with_reducible rfl)
      simp only [Act.put, List.setIfInBounds_toArray, List.set_cons_zero, List.set_cons_succ]
      refine wpAnyF_take (i := 22) (oi := { dst := some 40, op := Go.Op.extract (Go.Operand.tmp 18) 1, type := 3, pos := "reader.go:30", after := #[{ on := 20, ground := Go.Ground.data }, { on := 25, ground := Go.Ground.gcOnly Go.Departure.lateStores }], guard := none }) (v := ?v22_22) hNW (by decide) rfl (by kernel_rfl) (by kernel_rfl) (by kernel_rfl) (by kernel_rfl) (fun _ _ _ h => h) (Or.inl ⟨by kernel_rfl, ?h22_22⟩) (by assumption) ?r22_22
      case h22_22 => (intro wt hSw; (try dsimp only at hSw); go_simp; try with_reducible rfl)
      simp only [Act.put, List.setIfInBounds_toArray, List.set_cons_zero, List.set_cons_succ]
      refine wpAnyF_take (i := 23) (oi := { dst := some 41, op := Go.Op.extract (Go.Operand.tmp 18) 2, type := 42, pos := "reader.go:30", after := #[{ on := 20, ground := Go.Ground.data }, { on := 26, ground := Go.Ground.gcOnly Go.Departure.lateStores }], guard := none }) (v := ?v23_23) hNW (by decide) rfl (by kernel_rfl) (by kernel_rfl) (by kernel_rfl) (by kernel_rfl) (fun _ _ _ h => h) (Or.inl ⟨by kernel_rfl, ?h23_23⟩) (by assumption) ?r23_23
      case h23_23 => (intro wt hSw; (try dsimp only at hSw); go_simp; try with_reducible rfl)
      simp only [Act.put, List.setIfInBounds_toArray, List.set_cons_zero, List.set_cons_succ]
      refine wpAnyF_one (i := 24) (o := { dst := some 5, op := Go.Op.alloc 41, type := 0, pos := "reader.go:30", after := #[], guard := none }) rfl rfl (by kernel_rfl) ?_
      refine step_alloc25 rfl ?_
      have hb3 := below_new w2 (.cells #[.int .i64 0, .int .u64 0, .int .u64 0, .int .i64 0, .int .i64 0, .slice none 0 0] 41)
      have hR3 := hR2.kept hb3
      have hHeld3 := (show (fun W => W.cell? ⟨q, 0, none⟩ = some (.pointer (some ⟨p, 0, none⟩)) ∧ W.cell? ⟨q, 1, none⟩ = some (.slice (some ⟨g, 0, none⟩) all.length k0) ∧ W.cell? ⟨q, 2, none⟩ = some (.int .i64 (left : Int))) (w2.alloc (.cells #[.int .i64 0, .int .u64 0, .int .u64 0, .int .i64 0, .int .i64 0, .slice none 0 0] 41)) from ⟨hR3.row.cell 0 _ rfl, hR3.row.cell 1 _ rfl, hR3.row.cell 2 _ rfl⟩)
      refine ⟨fun _ => hHeld3, ?_⟩
      simp only [Act.put, List.setIfInBounds_toArray, List.set_cons_zero, List.set_cons_succ]
      have hbx := Row.new w2 [.int .i64 0, .int .u64 0, .int .u64 0, .int .i64 0, .int .i64 0, .slice none 0 0] 41
      have hNx := Nx.mk' (w := w) (G := G) hbx (hb2.kept hb3 hb2.lt) (by have := hb2.lt; omega) hR3 ((hD2.frT (S := fun _ => False) (Fr.of_below hb3 (Nat.le_refl _)) (fun _ _ _ _ e => e))) (((Fr.of_below (S := fun x => x = p) HB1.out (Nat.le_refl _)).trans ⟨hF2.os, hF2.tape, hF2.output, hF2.size, hF2.block⟩ (fun x e => .inl e)).trans (T := fun _ => False) (Fr.of_below hb3 (Nat.le_refl _)) (fun _ e => e.elim)) (Nat.le_trans HB1.out.size hz2) (Nat.le_of_eq HB0.out.symm)
      refine wpAnyF_one (i := 25) (o := { dst := none, op := Go.Op.store 41 (Go.Operand.tmp 5) (Go.Operand.tmp 39), type := 0, pos := "reader.go:30", after := #[{ on := 24, ground := Go.Ground.data }, { on := 21, ground := Go.Ground.data }, { on := 19, ground := Go.Ground.chain }, { on := 0, ground := Go.Ground.phase }, { on := 1, ground := Go.Ground.phase }, { on := 2, ground := Go.Ground.phase }, { on := 3, ground := Go.Ground.phase }, { on := 4, ground := Go.Ground.phase }, { on := 5, ground := Go.Ground.phase }, { on := 6, ground := Go.Ground.phase }, { on := 7, ground := Go.Ground.phase }, { on := 8, ground := Go.Ground.phase }, { on := 9, ground := Go.Ground.phase }, { on := 10, ground := Go.Ground.phase }, { on := 11, ground := Go.Ground.phase }, { on := 12, ground := Go.Ground.phase }, { on := 13, ground := Go.Ground.phase }, { on := 14, ground := Go.Ground.phase }, { on := 15, ground := Go.Ground.phase }, { on := 16, ground := Go.Ground.phase }, { on := 17, ground := Go.Ground.phase }, { on := 18, ground := Go.Ground.phase }, { on := 19, ground := Go.Ground.phase }, { on := 20, ground := Go.Ground.phase }, { on := 21, ground := Go.Ground.phase }, { on := 22, ground := Go.Ground.textOnly Go.Departure.lateStores }, { on := 23, ground := Go.Ground.textOnly Go.Departure.lateStores }, { on := 24, ground := Go.Ground.phase }], guard := none }) rfl rfl (by kernel_rfl) ?_
      refine step_store25 (b := w2.heap.size) rfl rfl rfl hbx ?_
      have hHeld4 := (show (fun W => W.cell? ⟨q, 0, none⟩ = some (.pointer (some ⟨p, 0, none⟩)) ∧ W.cell? ⟨q, 1, none⟩ = some (.slice (some ⟨g, 0, none⟩) all.length k0) ∧ W.cell? ⟨q, 2, none⟩ = some (.int .i64 (left : Int))) (six (w2.alloc (.cells #[.int .i64 0, .int .u64 0, .int .u64 0, .int .i64 0, .int .i64 0, .slice none 0 0] 41)) w2.heap.size G.k G.s G.n G.c G.h (.slice a9 n9 c9)) from ⟨hNx.rd.row.cell 0 _ rfl, hNx.rd.row.cell 1 _ rfl, hNx.rd.row.cell 2 _ rfl⟩)
      refine ⟨fun _ => hHeld4, ?_⟩
      simp only [Act.put]
      refine wpAnyF_take (i := 26) (oi := { dst := some 6, op := Go.Op.assign (Go.Operand.tmp 40), type := 3, pos := "reader.go:30", after := #[{ on := 22, ground := Go.Ground.data }, { on := 25, ground := Go.Ground.chain }, { on := 0, ground := Go.Ground.phase }, { on := 1, ground := Go.Ground.phase }, { on := 2, ground := Go.Ground.phase }, { on := 3, ground := Go.Ground.phase }, { on := 4, ground := Go.Ground.phase }, { on := 5, ground := Go.Ground.phase }, { on := 6, ground := Go.Ground.phase }, { on := 7, ground := Go.Ground.phase }, { on := 8, ground := Go.Ground.phase }, { on := 9, ground := Go.Ground.phase }, { on := 10, ground := Go.Ground.phase }, { on := 11, ground := Go.Ground.phase }, { on := 12, ground := Go.Ground.phase }, { on := 13, ground := Go.Ground.phase }, { on := 14, ground := Go.Ground.phase }, { on := 15, ground := Go.Ground.phase }, { on := 16, ground := Go.Ground.phase }, { on := 17, ground := Go.Ground.phase }, { on := 18, ground := Go.Ground.phase }, { on := 19, ground := Go.Ground.phase }, { on := 20, ground := Go.Ground.phase }, { on := 21, ground := Go.Ground.phase }, { on := 22, ground := Go.Ground.phase }, { on := 23, ground := Go.Ground.textOnly Go.Departure.lateStores }, { on := 24, ground := Go.Ground.phase }, { on := 25, ground := Go.Ground.phase }], guard := none }) (v := ?v24_26) hNW (by decide) rfl (by kernel_rfl) (by kernel_rfl) (by kernel_rfl) (by kernel_rfl) (fun _ _ _ h => h) (Or.inl ⟨by kernel_rfl, ?h24_26⟩) (by assumption) ?r24_26
      case h24_26 => (intro wt hSw; (try dsimp only at hSw); go_simp; try with_reducible rfl)
      simp only [Act.put, List.setIfInBounds_toArray, List.set_cons_zero, List.set_cons_succ]
      refine wpAnyF_one (i := 27) (o := { dst := some 7, op := Go.Op.assign (Go.Operand.tmp 41), type := 42, pos := "reader.go:30", after := #[{ on := 23, ground := Go.Ground.data }, { on := 26, ground := Go.Ground.chain }, { on := 0, ground := Go.Ground.phase }, { on := 1, ground := Go.Ground.phase }, { on := 2, ground := Go.Ground.phase }, { on := 3, ground := Go.Ground.phase }, { on := 4, ground := Go.Ground.phase }, { on := 5, ground := Go.Ground.phase }, { on := 6, ground := Go.Ground.phase }, { on := 7, ground := Go.Ground.phase }, { on := 8, ground := Go.Ground.phase }, { on := 9, ground := Go.Ground.phase }, { on := 10, ground := Go.Ground.phase }, { on := 11, ground := Go.Ground.phase }, { on := 12, ground := Go.Ground.phase }, { on := 13, ground := Go.Ground.phase }, { on := 14, ground := Go.Ground.phase }, { on := 15, ground := Go.Ground.phase }, { on := 16, ground := Go.Ground.phase }, { on := 17, ground := Go.Ground.phase }, { on := 18, ground := Go.Ground.phase }, { on := 19, ground := Go.Ground.phase }, { on := 20, ground := Go.Ground.phase }, { on := 21, ground := Go.Ground.phase }, { on := 22, ground := Go.Ground.phase }, { on := 23, ground := Go.Ground.phase }, { on := 24, ground := Go.Ground.phase }, { on := 25, ground := Go.Ground.phase }, { on := 26, ground := Go.Ground.phase }], guard := none }) rfl rfl (by kernel_rfl) ?_
      refine step_valueR (v := .int .i64 er) (w' := six (w2.alloc (.cells #[.int .i64 0, .int .u64 0, .int .u64 0, .int .i64 0, .int .i64 0, .slice none 0 0] 41)) w2.heap.size G.k G.s G.n G.c G.h (.slice a9 n9 c9)) (by first | kernel_rfl | go_simp) ?_
      refine ⟨fun h => absurd rfl h, ?_⟩
      simp only [Act.put, List.setIfInBounds_toArray, List.set_cons_zero, List.set_cons_succ]
      refine wpAnyF_done (by kernel_rfl) ?_ _
      clear hNW hHeld hHeld2 hHeld3 hHeld4
      go_wp2
      go_meet
      exact ⟨_, a9, n9, c9, rfl, rfl, rfl, hNx⟩
    · refine step_alloc25 rfl ?_
      have hb3 := below_new w1.drew (.cells #[.int .i64 0, .int .u64 0, .int .u64 0, .int .i64 0, .int .i64 0, .slice none 0 0] 41)
      have hR3 := (H1.out.kept (Below.refl _ _).drew).kept hb3
      have hHeld3 := (show (fun W => W.cell? ⟨q, 0, none⟩ = some (.pointer (some ⟨p, 0, none⟩)) ∧ W.cell? ⟨q, 1, none⟩ = some (.slice (some ⟨g, 0, none⟩) all.length k0) ∧ W.cell? ⟨q, 2, none⟩ = some (.int .i64 (left : Int))) (w1.drew.alloc (.cells #[.int .i64 0, .int .u64 0, .int .u64 0, .int .i64 0, .int .i64 0, .slice none 0 0] 41)) from ⟨hR3.row.cell 0 _ rfl, hR3.row.cell 1 _ rfl, hR3.row.cell 2 _ rfl⟩)
      refine ⟨fun _ => hHeld3, ?_⟩
      simp only [Act.put, List.setIfInBounds_toArray, List.set_cons_zero, List.set_cons_succ]
      refine wpAnyF_one (i := 19) (o := { dst := some 38, op := Go.Op.call { callee := Go.Callee.value (Go.Operand.func 25), args := #[Go.Operand.tmp 22, Go.Operand.tmp 37], argTypes := #[60, 27] }, type := 56, pos := "reader.go:30", after := #[{ on := 3, ground := Go.Ground.data }, { on := 18, ground := Go.Ground.data }], guard := none }) rfl rfl (by kernel_rfl) ?_
      refine step_callx (f := 25) (args := #[.pointer (some ⟨p, 0, none⟩), .slice ta left tc]) (by first | kernel_rfl | go_simp) (HT.out _ ((Below.refl _ _).drew.trans hb3)) ?_
      rintro v2 w2 ⟨a9, n9, c9, rfl, hR2, hF2, hD2, hb2⟩
      have hbx0 := Row.new w1.drew [.int .i64 0, .int .u64 0, .int .u64 0, .int .i64 0, .int .i64 0, .slice none 0 0] 41
      have hbx := hF2.row hbx0 (fun e => by have := row_type (by rw [← e]; exact hbx0) hR3.sc.row; cases this)
      have k0' := hR2.row.cell 0 _ rfl
      have k1' := hR2.row.cell 1 _ rfl
      have k2' := hR2.row.cell 2 _ rfl
      have hHeld2 := (show (fun W => W.cell? ⟨q, 0, none⟩ = some (.pointer (some ⟨p, 0, none⟩)) ∧ W.cell? ⟨q, 1, none⟩ = some (.slice (some ⟨g, 0, none⟩) all.length k0) ∧ W.cell? ⟨q, 2, none⟩ = some (.int .i64 (left : Int))) w2 from ⟨k0', k1', k2'⟩)
      refine ⟨fun _ => hHeld2, ?_⟩
      simp only [Act.put, List.setIfInBounds_toArray, List.set_cons_zero, List.set_cons_succ]
      refine wpAnyF_take (i := 20) (oi := { dst := some 18, op := Go.Op.move (Go.Operand.tmp 38), type := 56, pos := "reader.go:30", after := #[{ on := 19, ground := Go.Ground.data }], guard := none }) (v := ?v25_20) hNW (by decide) rfl (by kernel_rfl) (by kernel_rfl) (by kernel_rfl) (by kernel_rfl) (fun _ _ _ h => h) (Or.inl ⟨by kernel_rfl, ?h25_20⟩) (by assumption) ?r25_20
      case h25_20 => (intro wt hSw; (try dsimp only at hSw); go_simp; try with_reducible rfl)
      simp only [Act.put, List.setIfInBounds_toArray, List.set_cons_zero, List.set_cons_succ]
      refine wpAnyF_take (i := 21) (oi := { dst := some 39, op := Go.Op.extract (Go.Operand.tmp 18) 0, type := 41, pos := "reader.go:30", after := #[{ on := 20, ground := Go.Ground.data }], guard := none }) (v := ?v26_21) hNW (by decide) rfl (by kernel_rfl) (by kernel_rfl) (by kernel_rfl) (by kernel_rfl) (fun _ _ _ h => h) (Or.inl ⟨by kernel_rfl, ?h26_21⟩) (by assumption) ?r26_21
      case h26_21 => (intro wt hSw; (try dsimp only at hSw); go_simp; try with_reducible rfl)
      simp only [Act.put, List.setIfInBounds_toArray, List.set_cons_zero, List.set_cons_succ]
      refine wpAnyF_take (i := 22) (oi := { dst := some 40, op := Go.Op.extract (Go.Operand.tmp 18) 1, type := 3, pos := "reader.go:30", after := #[{ on := 20, ground := Go.Ground.data }, { on := 25, ground := Go.Ground.gcOnly Go.Departure.lateStores }], guard := none }) (v := ?v27_22) hNW (by decide) rfl (by kernel_rfl) (by kernel_rfl) (by kernel_rfl) (by kernel_rfl) (fun _ _ _ h => h) (Or.inl ⟨by kernel_rfl, ?h27_22⟩) (by assumption) ?r27_22
      case h27_22 => (intro wt hSw; (try dsimp only at hSw); go_simp; try with_reducible rfl)
      simp only [Act.put, List.setIfInBounds_toArray, List.set_cons_zero, List.set_cons_succ]
      refine wpAnyF_take (i := 23) (oi := { dst := some 41, op := Go.Op.extract (Go.Operand.tmp 18) 2, type := 42, pos := "reader.go:30", after := #[{ on := 20, ground := Go.Ground.data }, { on := 26, ground := Go.Ground.gcOnly Go.Departure.lateStores }], guard := none }) (v := ?v28_23) hNW (by decide) rfl (by kernel_rfl) (by kernel_rfl) (by kernel_rfl) (by kernel_rfl) (fun _ _ _ h => h) (Or.inl ⟨by kernel_rfl, ?h28_23⟩) (by assumption) ?r28_23
      case h28_23 => (intro wt hSw; (try dsimp only at hSw); go_simp; try with_reducible rfl)
      simp only [Act.put, List.setIfInBounds_toArray, List.set_cons_zero, List.set_cons_succ]
      have hNx := Nx.mk' (w := w) (G := G) hbx hb2 (by have h1 : w1.drew.heap.size = b0 + 1 := HZ1.out; omega) hR2 hD2 ((((Fr.of_below (S := fun x => x = p) HB1.out (Nat.le_refl _)).trans (T := fun _ => False) (Fr.of_below (Below.refl _ _).drew (Nat.le_refl _)) (fun _ e => e.elim)).trans (T := fun _ => False) (Fr.of_below hb3 (Nat.le_refl _)) (fun _ e => e.elim)).trans hF2 (fun x e => .inl e)) HB1.out.size (Nat.le_of_eq HB0.out.symm)
      refine wpAnyF_one (i := 25) (o := { dst := none, op := Go.Op.store 41 (Go.Operand.tmp 5) (Go.Operand.tmp 39), type := 0, pos := "reader.go:30", after := #[{ on := 24, ground := Go.Ground.data }, { on := 21, ground := Go.Ground.data }, { on := 19, ground := Go.Ground.chain }, { on := 0, ground := Go.Ground.phase }, { on := 1, ground := Go.Ground.phase }, { on := 2, ground := Go.Ground.phase }, { on := 3, ground := Go.Ground.phase }, { on := 4, ground := Go.Ground.phase }, { on := 5, ground := Go.Ground.phase }, { on := 6, ground := Go.Ground.phase }, { on := 7, ground := Go.Ground.phase }, { on := 8, ground := Go.Ground.phase }, { on := 9, ground := Go.Ground.phase }, { on := 10, ground := Go.Ground.phase }, { on := 11, ground := Go.Ground.phase }, { on := 12, ground := Go.Ground.phase }, { on := 13, ground := Go.Ground.phase }, { on := 14, ground := Go.Ground.phase }, { on := 15, ground := Go.Ground.phase }, { on := 16, ground := Go.Ground.phase }, { on := 17, ground := Go.Ground.phase }, { on := 18, ground := Go.Ground.phase }, { on := 19, ground := Go.Ground.phase }, { on := 20, ground := Go.Ground.phase }, { on := 21, ground := Go.Ground.phase }, { on := 22, ground := Go.Ground.textOnly Go.Departure.lateStores }, { on := 23, ground := Go.Ground.textOnly Go.Departure.lateStores }, { on := 24, ground := Go.Ground.phase }], guard := none }) rfl rfl (by kernel_rfl) ?_
      refine step_store25 (b := w1.drew.heap.size) rfl rfl rfl hbx ?_
      have hHeld4 := (show (fun W => W.cell? ⟨q, 0, none⟩ = some (.pointer (some ⟨p, 0, none⟩)) ∧ W.cell? ⟨q, 1, none⟩ = some (.slice (some ⟨g, 0, none⟩) all.length k0) ∧ W.cell? ⟨q, 2, none⟩ = some (.int .i64 (left : Int))) (six w2 w1.drew.heap.size G.k G.s G.n G.c G.h (.slice a9 n9 c9)) from ⟨hNx.rd.row.cell 0 _ rfl, hNx.rd.row.cell 1 _ rfl, hNx.rd.row.cell 2 _ rfl⟩)
      refine ⟨fun _ => hHeld4, ?_⟩
      simp only [Act.put]
      refine wpAnyF_take (i := 26) (oi := { dst := some 6, op := Go.Op.assign (Go.Operand.tmp 40), type := 3, pos := "reader.go:30", after := #[{ on := 22, ground := Go.Ground.data }, { on := 25, ground := Go.Ground.chain }, { on := 0, ground := Go.Ground.phase }, { on := 1, ground := Go.Ground.phase }, { on := 2, ground := Go.Ground.phase }, { on := 3, ground := Go.Ground.phase }, { on := 4, ground := Go.Ground.phase }, { on := 5, ground := Go.Ground.phase }, { on := 6, ground := Go.Ground.phase }, { on := 7, ground := Go.Ground.phase }, { on := 8, ground := Go.Ground.phase }, { on := 9, ground := Go.Ground.phase }, { on := 10, ground := Go.Ground.phase }, { on := 11, ground := Go.Ground.phase }, { on := 12, ground := Go.Ground.phase }, { on := 13, ground := Go.Ground.phase }, { on := 14, ground := Go.Ground.phase }, { on := 15, ground := Go.Ground.phase }, { on := 16, ground := Go.Ground.phase }, { on := 17, ground := Go.Ground.phase }, { on := 18, ground := Go.Ground.phase }, { on := 19, ground := Go.Ground.phase }, { on := 20, ground := Go.Ground.phase }, { on := 21, ground := Go.Ground.phase }, { on := 22, ground := Go.Ground.phase }, { on := 23, ground := Go.Ground.textOnly Go.Departure.lateStores }, { on := 24, ground := Go.Ground.phase }, { on := 25, ground := Go.Ground.phase }], guard := none }) (v := ?v29_26) hNW (by decide) rfl (by kernel_rfl) (by kernel_rfl) (by kernel_rfl) (by kernel_rfl) (fun _ _ _ h => h) (Or.inl ⟨by kernel_rfl, ?h29_26⟩) (by assumption) ?r29_26
      case h29_26 => (intro wt hSw; (try dsimp only at hSw); go_simp; try with_reducible rfl)
      simp only [Act.put, List.setIfInBounds_toArray, List.set_cons_zero, List.set_cons_succ]
      refine wpAnyF_one (i := 27) (o := { dst := some 7, op := Go.Op.assign (Go.Operand.tmp 41), type := 42, pos := "reader.go:30", after := #[{ on := 23, ground := Go.Ground.data }, { on := 26, ground := Go.Ground.chain }, { on := 0, ground := Go.Ground.phase }, { on := 1, ground := Go.Ground.phase }, { on := 2, ground := Go.Ground.phase }, { on := 3, ground := Go.Ground.phase }, { on := 4, ground := Go.Ground.phase }, { on := 5, ground := Go.Ground.phase }, { on := 6, ground := Go.Ground.phase }, { on := 7, ground := Go.Ground.phase }, { on := 8, ground := Go.Ground.phase }, { on := 9, ground := Go.Ground.phase }, { on := 10, ground := Go.Ground.phase }, { on := 11, ground := Go.Ground.phase }, { on := 12, ground := Go.Ground.phase }, { on := 13, ground := Go.Ground.phase }, { on := 14, ground := Go.Ground.phase }, { on := 15, ground := Go.Ground.phase }, { on := 16, ground := Go.Ground.phase }, { on := 17, ground := Go.Ground.phase }, { on := 18, ground := Go.Ground.phase }, { on := 19, ground := Go.Ground.phase }, { on := 20, ground := Go.Ground.phase }, { on := 21, ground := Go.Ground.phase }, { on := 22, ground := Go.Ground.phase }, { on := 23, ground := Go.Ground.phase }, { on := 24, ground := Go.Ground.phase }, { on := 25, ground := Go.Ground.phase }, { on := 26, ground := Go.Ground.phase }], guard := none }) rfl rfl (by kernel_rfl) ?_
      refine step_valueR (v := .int .i64 er) (w' := six w2 w1.drew.heap.size G.k G.s G.n G.c G.h (.slice a9 n9 c9)) (by first | kernel_rfl | go_simp) ?_
      refine ⟨fun h => absurd rfl h, ?_⟩
      simp only [Act.put, List.setIfInBounds_toArray, List.set_cons_zero, List.set_cons_succ]
      refine wpAnyF_done (by kernel_rfl) ?_ _
      clear hNW hHeld hHeld2 hHeld3 hHeld4
      go_wp2
      go_meet
      exact ⟨_, a9, n9, c9, rfl, rfl, rfl, hNx⟩
  case rest =>
    obtain ⟨bx, a9, n9, c9, rfl, rfl, rfl, hN⟩ := hcut
    have HN := hid hN
    have HOL : Hid (∀ x, (.slice (some ⟨g, 0, none⟩) all.length k0 : Value).ownBlock = some x → x < w.heap.size) := fun x hx => own_lt' HH.out.own hx
    clear hN c0 c1 c2 c4 HT HW1
    by_cases h0 : er = 0
    · subst h0
      obtain ⟨t1, t2⟩ := HTR.out HER.out
      rw [HTN.out] at t1 t2
      have HGV := hid (give_any HN.out.rd (n := tn) t2 t1 (by have := HA.out; omega) HL.out)
      clear t1 t2
      go_upto_region 7 with (go_at_call 26; refine HGV.out.mono ?_; rintro e w4 ⟨rfl, v', all', e1, hR4, e2, e3, hF4⟩; have HE := hid (And.intro e1 (And.intro e2 e3)); have HR4 := hid hR4; have HF4 := hid hF4; clear e1 e2 e3 hR4 hF4 HGV)
      have hty : ∀ b c, Row wc b c 41 → ¬ (b = q ∨ (.slice (some ⟨g, 0, none⟩) all.length k0 : Value).ownBlock = some b) := fun b c hr e => by
        rcases e with e | e
        · have := row_type (by rw [← e]; exact hr) HN.out.rd.row
          cases this
        · have := own_type HN.out.rd.own e hr
          cases this
      have hbx4 := HF4.out.row HN.out.box (hty _ _ HN.out.box)
      have hb04 := HF4.out.row HN.out.res (hty _ _ HN.out.res)
      have y0 := hbx4.cell 0 _ rfl
      have y1 := hbx4.cell 1 _ rfl
      have y2 := hbx4.cell 2 _ rfl
      have y3 := hbx4.cell 3 _ rfl
      have y4 := hbx4.cell 4 _ rfl
      have y5 := hbx4.cell 5 _ rfl
      have z0 := hb04.cell 0 _ rfl
      have z1 := hb04.cell 1 _ rfl
      have z2 := hb04.cell 2 _ rfl
      have z3 := hb04.cell 3 _ rfl
      have z4 := hb04.cell 4 _ rfl
      have z5 := hb04.cell 5 _ rfl
      have f0 := hb04.frozen 0
      have f1 := hb04.frozen 1
      have f2 := hb04.frozen 2
      have f3 := hb04.frozen 3
      have f4 := hb04.frozen 4
      have f5 := hb04.frozen 5
      have HB4 := hid hb04
      clear hty hbx4 hb04
      go_wp2
      refine next_door (b0 := b0) rfl rfl rfl (six_row G.k G.s G.n G.c G.h (.slice a9 n9 c9) HB4.out) ?_
      have F := six_fr w4 b0 G.k G.s G.n G.c G.h (.slice a9 n9 c9)
      refine .inl ⟨HER.out, a9, n9, c9, v', all', by rw [HG.out]; rfl, ?_, HE.out.1, ?_, ?_, HE.out.2.2, ?_⟩
      · rw [HG.out]
        refine (HN.out.dt.frT HF4.out (fun g c hr hg e => ?_)).frT F (fun g c hr _ e => ?_)
        · rcases e with e | e
          · have := row_type (by rw [← e]; exact hr) HN.out.rd.row
            cases this
          · have := HOL.out _ e
            omega
        · have := row_type (by rw [← e]; exact hr) HB4.out
          cases this
      · rw [HTN.out]
        exact HR4.out.frB HB4.out F
      · rw [HTN.out, HE.out.2.1, ← HLE.out, List.drop_drop]
        congr 1
        have h1 := HTR.out HER.out
        rw [HTN.out] at h1
        have h2 := HH.out.le
        omega
      · exact ((HN.out.fr.wider (T := fun x => x = q ∨ x = p ∨ (.slice (some ⟨g, 0, none⟩) all.length k0 : Value).ownBlock = some x) (fun x e => .inr (.inl e))).trans HF4.out (fun x e => .inl (e.imp id .inr))).trans F (fun x e => .inr (by rw [e]; exact HN.out.g0))
    · have hb04 := HN.out.res
      have z0 := hb04.cell 0 _ rfl
      have z1 := hb04.cell 1 _ rfl
      have z2 := hb04.cell 2 _ rfl
      have z3 := hb04.cell 3 _ rfl
      have z4 := hb04.cell 4 _ rfl
      have z5 := hb04.cell 5 _ rfl
      have f0 := hb04.frozen 0
      have f1 := hb04.frozen 1
      have f2 := hb04.frozen 2
      have f3 := hb04.frozen 3
      have f4 := hb04.frozen 4
      have f5 := hb04.frozen 5
      have e0 : (er == 0) = false := by simpa using h0
      clear hb04
      by_cases h1 : er = 174
      · subst h1
        go_wp2
        refine next_door (b0 := b0) rfl rfl rfl (six_row 0 0 0 0 0 (.slice none 0 0) HN.out.res) ?_
        have F := six_fr wc b0 0 0 0 0 0 (.slice none 0 0)
        exact .inr (.inl ⟨HER.out, rfl, HN.out.rd.frB HN.out.res F, HN.out.fr.trans F (fun x e => .inr (by rw [e]; exact HN.out.g0))⟩)
      · have e1 : (er == 174) = false := by simpa using h1
        have c1 := HN.out.rd.row.cell 1 _ rfl
        have c4 := HN.out.rd.row.cell 4 _ rfl
        have g1 := HN.out.rd.row.frozen 1
        have g4 := HN.out.rd.row.frozen 4
        have hqb : ¬ q = b0 := fun e => by
          have := row_type (by rw [e]; exact HN.out.res) HN.out.rd.row
          cases this
        have hbq : ¬ b0 = q := fun e => hqb e.symm
        go_wp2
        have F0 : Fr (fun x => x = q) wc ((wc.setCell ⟨q, 4, none⟩ (.int .i64 er)).setCell ⟨q, 1, none⟩ (.slice none 0 0)) := (fr_set wc q 4 _).trans (fr_set _ q 1 _) (fun x e => .inl e)
        have hb5 := F0.row HN.out.res hbq
        refine next_door (b0 := b0) rfl rfl rfl (six_row 0 0 0 0 0 (.slice none 0 0) hb5) ?_
        have F := six_fr ((wc.setCell ⟨q, 4, none⟩ (.int .i64 er)).setCell ⟨q, 1, none⟩ (.slice none 0 0)) b0 0 0 0 0 0 (.slice none 0 0)
        refine .inr (.inr ⟨by rw [HER.out]; exact h0, by rw [HER.out]; exact h1, by rw [HER.out]; rfl, ⟨?_, HN.out.rd.bq, by rw [HER.out]; exact h0⟩, ?_⟩)
        · rw [HER.out]
          exact F.row ((HN.out.rd.row.set 4 (.int .i64 er)).set 1 (.slice none 0 0)) hqb
        · exact ((HN.out.fr.wider (T := fun x => x = q ∨ x = p) (fun x e => .inr e)).trans F0 (fun x e => .inl (.inl e))).trans F (fun x e => .inr (by rw [e]; exact HN.out.g0))
set_option maxHeartbeats 8000000 in
theorem next_none {B : Nat} {w : World} {q p : Nat} {v : Value} {all : List (BitVec 8)} {left : Nat} {at_ : Int} (H : Rdr B w q p v all left at_ 0) {L : List (BitVec 8)} (hL : all.drop (all.length - left) = L) (ha : 0 ≤ at_ ∧ at_ + left < 18446744073709551616) (hl : all.length ≤ 140737488355328) (hv : v.ownBlock = none) :
    Calls Try.prog 10 #[.pointer (some ⟨q, 0, none⟩)] w (NxAns B w q p v all left at_ L) := by
  obtain ⟨b0, hb0⟩ : ∃ b0, b0 = w.heap.size := ⟨_, rfl⟩
  obtain ⟨w1, hw1⟩ : ∃ w1, w1 = w.alloc (.cells #[.int .i64 0, .int .u64 0, .int .u64 0, .int .i64 0, .int .i64 0, .slice none 0 0] 41) := ⟨_, rfl⟩
  have hb1 : Below w.heap.size w w1 := by rw [hw1]; exact below_new _ _
  have hz1 : w1.heap.size = b0 + 1 := by rw [hw1, hb0]; simp
  have R1 : Row w1 b0 [.int .i64 0, .int .u64 0, .int .u64 0, .int .i64 0, .int .i64 0, .slice none 0 0] 41 := by rw [hw1, hb0]; exact Row.new _ _ _
  have HH := hid H
  have H1 := hid (H.kept hb1)
  have hLl : L.length = left := by rw [← hL, List.length_drop]; have := H.le; omega
  have hTR : (allA PF.zero L).1 = 0 → 0 < takeN L ∧ takeN L ≤ left := fun h => by have := take_rest h; omega
  obtain ⟨rfl, rfl⟩ : v = .slice none 0 0 ∧ all = [] := by
    rcases H.own.2 with ⟨e, e2⟩ | ⟨g0, k0, cur, e, _⟩
    · exact ⟨e, List.eq_nil_of_length_eq_zero e2⟩
    · rw [e] at hv; cases hv
  obtain rfl : left = 0 := by have := H.le; simpa using this
  have hLf : ∀ W, Below w1.heap.size w1 W → Lf W p (.slice none 0 0) L := fun W hW => by
    obtain rfl : L = [] := by rw [← hL]; rfl
    exact ⟨none, 0, rfl, fun k hk => absurd hk (Nat.not_lt_zero _), ⟨Nat.le_refl _, Nat.zero_le _⟩, fun _ => rfl, fun g o e => (by cases e)⟩
  have hT : ∀ W, Below w1.heap.size w1 W → Calls Try.prog 25 #[.pointer (some ⟨p, 0, none⟩), .slice none 0 0] W fun e w' => ∃ a9 n9 c9, e = .returned (.tuple #[.agg #[.int .i64 (takeG L).k, .int .u64 (takeG L).s, .int .u64 (takeG L).n, .int .i64 (takeG L).c, .int .i64 (takeG L).h, .slice a9 n9 c9], .int .i64 ((takeN L : Nat) : Int), .int .i64 (allA PF.zero L).1]) ∧ Sc w' p (.slice none 0 0) 0 0 0 0 0 (.slice none 0 0) ∧ Fr (fun x => x = p) W w' ∧ Dt w' W.heap.size (.slice a9 n9 c9) (takeG L).bs := fun W hW => take_all (H1.out.sc.kept hW) (hLf W hW)
  obtain ⟨tn, htn⟩ : ∃ tn, takeN L = tn := ⟨_, rfl⟩
  obtain ⟨er, her⟩ : ∃ er, (allA PF.zero L).1 = er := ⟨_, rfl⟩
  obtain ⟨G, hG⟩ : ∃ G, takeG L = G := ⟨_, rfl⟩
  rw [htn, her, hG] at hT
  have hHP : H1.out.sc.row.lt = H1.out.sc.row.lt := rfl
  have hpl := HH.out.sc.lt
  have HNXT : Hid (∀ W, Below w1.heap.size w1 W → ∀ bx (hbx : w1.heap.size ≤ bx), True) := fun _ _ _ _ => trivial
  have HT : Hid (∀ W, Below w1.heap.size w1 W → Calls Try.prog 25 #[.pointer (some ⟨p, 0, none⟩), .slice none 0 0] W fun e w' => ∃ v, e = .returned v ∧ ∃ a9 n9 c9, v = .tuple #[.agg #[.int .i64 G.k, .int .u64 G.s, .int .u64 G.n, .int .i64 G.c, .int .i64 G.h, .slice a9 n9 c9], .int .i64 ((tn : Nat) : Int), .int .i64 er] ∧ Rdr B w' q p (.slice none 0 0) [] 0 at_ 0 ∧ Fr (fun x => x = p) W w' ∧ Dt w' w.heap.size (.slice a9 n9 c9) G.bs ∧ Row w' b0 [.int .i64 0, .int .u64 0, .int .u64 0, .int .i64 0, .int .i64 0, .slice none 0 0] 41) := fun W hW => (hT W hW).mono (by
    rintro e w' ⟨a9, n9, c9, rfl, k1, k2, k3⟩
    refine ⟨_, rfl, a9, n9, c9, rfl, (H1.out.kept hW).took k2 k1, k2, k3.less (Nat.le_trans hb1.size hW.size), k2.row (R1.kept hW R1.lt) (fun e => ?_)⟩
    have := row_type (by rw [← e]; exact R1) H1.out.sc.row
    cases this)
  have c0 := H1.out.row.cell 0 _ rfl
  have c1 := H1.out.row.cell 1 _ rfl
  have c2 := H1.out.row.cell 2 _ rfl
  have c4 : (w.alloc (.cells #[.int .i64 0, .int .u64 0, .int .u64 0, .int .i64 0, .int .i64 0, .slice none 0 0] 41)).cell? ⟨q, 4, none⟩ = some (.int .i64 0) := by rw [← hw1]; exact H1.out.row.cell 4 _ rfl
  have HR1 := hid R1
  have HB1 := hid hb1
  have HB0 := hid hb0
  have HW1 := hid hw1
  have HZ1 := hid hz1
  have HLL := hid hLl
  have HLE := hid hL
  have HA := hid ha
  have HL := hid hl
  have HTN := hid htn
  have HER := hid her
  have HG := hid hG
  have HTR := hid hTR
  have HPL := hid hpl
  clear H hb1 R1 hLf hLl hL hv ha hl hb0 hw1 hz1 hT htn her hG hTR hpl hHP HNXT 
  go_enter Try.func10, Try.ntmps10
  go_upto_region 3 with fail
  rw [← HW1.out, ← HB0.out]
  go_cut [5, 6, 7] from 18 to 60 (fun s5 s6 s7 wc => ∃ bx a9 n9 c9, s5 = .pointer (some ⟨bx, 0, none⟩) ∧ s6 = .int .i64 ((tn : Nat) : Int) ∧ s7 = .int .i64 er ∧ Nx B w q p b0 bx (.slice none 0 0) [] 0 at_ G (.slice a9 n9 c9) wc)
  case first =>
    refine wp_region_last (S := fun W => W.cell? ⟨q, 0, none⟩ = some (.pointer (some ⟨p, 0, none⟩)) ∧ W.cell? ⟨q, 1, none⟩ = some (.slice none 0 0) ∧ W.cell? ⟨q, 2, none⟩ = some (.int .i64 ((0 : Nat) : Int))) (N := 27) (by kernel_rfl) (by kernel_rfl) fun hNW => ?_
    have hHeld := (show (fun W => W.cell? ⟨q, 0, none⟩ = some (.pointer (some ⟨p, 0, none⟩)) ∧ W.cell? ⟨q, 1, none⟩ = some (.slice none 0 0) ∧ W.cell? ⟨q, 2, none⟩ = some (.int .i64 ((0 : Nat) : Int))) w1.drew from ⟨c0, c1, c2⟩)
    refine wpAnyF_take (i := 0) (oi := { dst := some 19, op := Go.Op.move (Go.Operand.tmp 0), type := 23, pos := "reader.go:30", after := #[], guard := none }) (v := ?v30_0) hNW (by decide) rfl (by kernel_rfl) (by kernel_rfl) (by kernel_rfl) (by kernel_rfl) (fun _ _ _ h => h) (Or.inl ⟨by kernel_rfl, ?h30_0⟩) (by assumption) ?r30_0
    case h30_0 => (intro wt hSw; (try dsimp only at hSw); go_simp; try with_reducible rfl)
    simp only [Act.put, List.setIfInBounds_toArray, List.set_cons_zero, List.set_cons_succ]
    refine wpAnyF_take (i := 1) (oi := { dst := some 20, op := Go.Op.nilCheck (Go.Operand.tmp 19), type := 0, pos := "reader.go:30", after := #[{ on := 0, ground := Go.Ground.data }], guard := none }) (v := ?v31_1) hNW (by decide) rfl (by kernel_rfl) (by kernel_rfl) (by kernel_rfl) (by kernel_rfl) (fun _ _ _ h => h) (Or.inl ⟨by kernel_rfl, ?h31_1⟩) (by assumption) ?r31_1
    case h31_1 => (intro wt hSw; (try dsimp only at hSw); go_simp; try with_reducible rfl)
    simp only [Act.put, List.setIfInBounds_toArray, List.set_cons_zero, List.set_cons_succ]
    refine wpAnyF_take (i := 2) (oi := { dst := some 21, op := Go.Op.fieldAddr 63 (Go.Operand.tmp 20) 0, type := 0, pos := "reader.go:30", after := #[{ on := 1, ground := Go.Ground.data }], guard := none }) (v := ?v32_2) hNW (by decide) rfl (by kernel_rfl) (by kernel_rfl) (by kernel_rfl) (by kernel_rfl) (fun _ _ _ h => h) (Or.inl ⟨by kernel_rfl, ?h32_2⟩) (by assumption) ?r32_2
    case h32_2 => (intro wt hSw; (try dsimp only at hSw); go_simp; try with_reducible rfl)
    simp only [Act.put, List.setIfInBounds_toArray, List.set_cons_zero, List.set_cons_succ]
    refine wpAnyF_take (i := 3) (oi := { dst := some 22, op := Go.Op.load 60 (Go.Operand.tmp 21), type := 60, pos := "reader.go:30", after := #[{ on := 2, ground := Go.Ground.data }], guard := none }) (v := ?v33_3) hNW (by decide) rfl (by kernel_rfl) (by kernel_rfl) (by kernel_rfl) (by kernel_rfl) (fun _ _ _ h => h) (Or.inl ⟨by kernel_rfl, ?h33_3⟩) (by assumption) ?r33_3
    case h33_3 => (intro wt hSw; (try dsimp only at hSw); go_simp; try with_reducible rfl)
    simp only [Act.put, List.setIfInBounds_toArray, List.set_cons_zero, List.set_cons_succ]
    refine wpAnyF_take (i := 4) (oi := { dst := some 23, op := Go.Op.move (Go.Operand.tmp 0), type := 23, pos := "reader.go:30", after := #[], guard := none }) (v := ?v34_4) hNW (by decide) rfl (by kernel_rfl) (by kernel_rfl) (by kernel_rfl) (by kernel_rfl) (fun _ _ _ h => h) (Or.inl ⟨by kernel_rfl, ?h34_4⟩) (by assumption) ?r34_4
    case h34_4 => (intro wt hSw; (try dsimp only at hSw); go_simp; try with_reducible rfl)
    simp only [Act.put, List.setIfInBounds_toArray, List.set_cons_zero, List.set_cons_succ]
    refine wpAnyF_take (i := 5) (oi := { dst := some 24, op := Go.Op.nilCheck (Go.Operand.tmp 23), type := 0, pos := "reader.go:30", after := #[{ on := 4, ground := Go.Ground.data }], guard := none }) (v := ?v35_5) hNW (by decide) rfl (by kernel_rfl) (by kernel_rfl) (by kernel_rfl) (by kernel_rfl) (fun _ _ _ h => h) (Or.inl ⟨by kernel_rfl, ?h35_5⟩) (by assumption) ?r35_5
    case h35_5 => (intro wt hSw; (try dsimp only at hSw); go_simp; try with_reducible rfl)
    simp only [Act.put, List.setIfInBounds_toArray, List.set_cons_zero, List.set_cons_succ]
    refine wpAnyF_take (i := 6) (oi := { dst := some 25, op := Go.Op.fieldAddr 63 (Go.Operand.tmp 24) 1, type := 0, pos := "reader.go:30", after := #[{ on := 5, ground := Go.Ground.data }], guard := none }) (v := ?v36_6) hNW (by decide) rfl (by kernel_rfl) (by kernel_rfl) (by kernel_rfl) (by kernel_rfl) (fun _ _ _ h => h) (Or.inl ⟨by kernel_rfl, ?h36_6⟩) (by assumption) ?r36_6
    case h36_6 => (intro wt hSw; (try dsimp only at hSw); go_simp; try with_reducible rfl)
    simp only [Act.put, List.setIfInBounds_toArray, List.set_cons_zero, List.set_cons_succ]
    refine wpAnyF_take (i := 7) (oi := { dst := some 26, op := Go.Op.load 27 (Go.Operand.tmp 25), type := 27, pos := "reader.go:30", after := #[{ on := 6, ground := Go.Ground.data }], guard := none }) (v := ?v37_7) hNW (by decide) rfl (by kernel_rfl) (by kernel_rfl) (by kernel_rfl) (by kernel_rfl) (fun _ _ _ h => h) (Or.inl ⟨by kernel_rfl, ?h37_7⟩) (by assumption) ?r37_7
    case h37_7 => (intro wt hSw; (try dsimp only at hSw); go_simp; try with_reducible rfl)
    simp only [Act.put, List.setIfInBounds_toArray, List.set_cons_zero, List.set_cons_succ]
    refine wpAnyF_take (i := 8) (oi := { dst := some 27, op := Go.Op.move (Go.Operand.tmp 0), type := 23, pos := "reader.go:30", after := #[], guard := none }) (v := ?v38_8) hNW (by decide) rfl (by kernel_rfl) (by kernel_rfl) (by kernel_rfl) (by kernel_rfl) (fun _ _ _ h => h) (Or.inl ⟨by kernel_rfl, ?h38_8⟩) (by assumption) ?r38_8
    case h38_8 => (intro wt hSw; (try dsimp only at hSw); go_simp; try with_reducible rfl)
    simp only [Act.put, List.setIfInBounds_toArray, List.set_cons_zero, List.set_cons_succ]
    refine wpAnyF_take (i := 9) (oi := { dst := some 28, op := Go.Op.nilCheck (Go.Operand.tmp 27), type := 0, pos := "reader.go:30", after := #[{ on := 8, ground := Go.Ground.data }], guard := none }) (v := ?v39_9) hNW (by decide) rfl (by kernel_rfl) (by kernel_rfl) (by kernel_rfl) (by kernel_rfl) (fun _ _ _ h => h) (Or.inl ⟨by kernel_rfl, ?h39_9⟩) (by assumption) ?r39_9
    case h39_9 => (intro wt hSw; (try dsimp only at hSw); go_simp; try with_reducible rfl)
    simp only [Act.put, List.setIfInBounds_toArray, List.set_cons_zero, List.set_cons_succ]
    refine wpAnyF_take (i := 10) (oi := { dst := some 29, op := Go.Op.fieldAddr 63 (Go.Operand.tmp 28) 1, type := 0, pos := "reader.go:30", after := #[{ on := 9, ground := Go.Ground.data }], guard := none }) (v := ?v40_10) hNW (by decide) rfl (by kernel_rfl) (by kernel_rfl) (by kernel_rfl) (by kernel_rfl) (fun _ _ _ h => h) (Or.inl ⟨by kernel_rfl, ?h40_10⟩) (by assumption) ?r40_10
    case h40_10 => (intro wt hSw; (try dsimp only at hSw); go_simp; try with_reducible rfl)
    simp only [Act.put, List.setIfInBounds_toArray, List.set_cons_zero, List.set_cons_succ]
    refine wpAnyF_take (i := 11) (oi := { dst := some 30, op := Go.Op.load 27 (Go.Operand.tmp 29), type := 27, pos := "reader.go:30", after := #[{ on := 10, ground := Go.Ground.data }], guard := none }) (v := ?v41_11) hNW (by decide) rfl (by kernel_rfl) (by kernel_rfl) (by kernel_rfl) (by kernel_rfl) (fun _ _ _ h => h) (Or.inl ⟨by kernel_rfl, ?h41_11⟩) (by assumption) ?r41_11
    case h41_11 => (intro wt hSw; (try dsimp only at hSw); go_simp; try with_reducible rfl)
    simp only [Act.put, List.setIfInBounds_toArray, List.set_cons_zero, List.set_cons_succ]
    refine wpAnyF_take (i := 12) (oi := { dst := some 31, op := Go.Op.call { callee := Go.Callee.builtin Go.Builtin.len, args := #[Go.Operand.tmp 30], argTypes := #[27] }, type := 3, pos := "reader.go:30", after := #[{ on := 11, ground := Go.Ground.data }], guard := none }) (v := ?v42_12) hNW (by decide) rfl (by kernel_rfl) (by kernel_rfl) (by kernel_rfl) (by kernel_rfl) (fun _ _ _ h => h) (Or.inl ⟨by kernel_rfl, ?h42_12⟩) (by assumption) ?r42_12
    case h42_12 => (intro wt hSw; (try dsimp only at hSw); go_simp; try with_reducible rfl)
    simp only [Act.put, List.setIfInBounds_toArray, List.set_cons_zero, List.set_cons_succ]
    refine wpAnyF_take (i := 13) (oi := { dst := some 32, op := Go.Op.move (Go.Operand.tmp 0), type := 23, pos := "reader.go:30", after := #[], guard := none }) (v := ?v43_13) hNW (by decide) rfl (by kernel_rfl) (by kernel_rfl) (by kernel_rfl) (by kernel_rfl) (fun _ _ _ h => h) (Or.inl ⟨by kernel_rfl, ?h43_13⟩) (by assumption) ?r43_13
    case h43_13 => (intro wt hSw; (try dsimp only at hSw); go_simp; try with_reducible rfl)
    simp only [Act.put, List.setIfInBounds_toArray, List.set_cons_zero, List.set_cons_succ]
    refine wpAnyF_take (i := 14) (oi := { dst := some 33, op := Go.Op.nilCheck (Go.Operand.tmp 32), type := 0, pos := "reader.go:30", after := #[{ on := 13, ground := Go.Ground.data }], guard := none }) (v := ?v44_14) hNW (by decide) rfl (by kernel_rfl) (by kernel_rfl) (by kernel_rfl) (by kernel_rfl) (fun _ _ _ h => h) (Or.inl ⟨by kernel_rfl, ?h44_14⟩) (by assumption) ?r44_14
    case h44_14 => (intro wt hSw; (try dsimp only at hSw); go_simp; try with_reducible rfl)
    simp only [Act.put, List.setIfInBounds_toArray, List.set_cons_zero, List.set_cons_succ]
    refine wpAnyF_take (i := 15) (oi := { dst := some 34, op := Go.Op.fieldAddr 63 (Go.Operand.tmp 33) 2, type := 0, pos := "reader.go:30", after := #[{ on := 14, ground := Go.Ground.data }], guard := none }) (v := ?v45_15) hNW (by decide) rfl (by kernel_rfl) (by kernel_rfl) (by kernel_rfl) (by kernel_rfl) (fun _ _ _ h => h) (Or.inl ⟨by kernel_rfl, ?h45_15⟩) (by assumption) ?r45_15
    case h45_15 => (intro wt hSw; (try dsimp only at hSw); go_simp; try with_reducible rfl)
    simp only [Act.put, List.setIfInBounds_toArray, List.set_cons_zero, List.set_cons_succ]
    refine wpAnyF_take (i := 16) (oi := { dst := some 35, op := Go.Op.load 3 (Go.Operand.tmp 34), type := 3, pos := "reader.go:30", after := #[{ on := 15, ground := Go.Ground.data }], guard := none }) (v := ?v46_16) hNW (by decide) rfl (by kernel_rfl) (by kernel_rfl) (by kernel_rfl) (by kernel_rfl) (fun _ _ _ h => h) (Or.inl ⟨by kernel_rfl, ?h46_16⟩) (by assumption) ?r46_16
    case h46_16 => (intro wt hSw; (try dsimp only at hSw); go_simp; try with_reducible rfl)
    simp only [Act.put, List.setIfInBounds_toArray, List.set_cons_zero, List.set_cons_succ]
    refine wpAnyF_take (i := 17) (oi := { dst := some 36, op := Go.Op.binOp Go.BinOp.sub 3 (Go.Operand.tmp 31) (Go.Operand.tmp 35) 3, type := 3, pos := "reader.go:30", after := #[{ on := 12, ground := Go.Ground.data }, { on := 16, ground := Go.Ground.data }], guard := none }) (v := .int .i64 0) hNW (by decide) rfl (by kernel_rfl) (by kernel_rfl) (by kernel_rfl) (by kernel_rfl) (fun _ _ _ h => h) (Or.inl ⟨by kernel_rfl, ?h47_17⟩) (by assumption) ?r47_17
    case h47_17 => (intro wt hSw; (try dsimp only at hSw); go_simp; try rfl)
    simp only [Act.put, List.setIfInBounds_toArray, List.set_cons_zero, List.set_cons_succ]
    refine wpAnyF_take (i := 18) (oi := { dst := some 37, op := Go.Op.slice 27 (Go.Operand.tmp 26) (some (Go.Operand.tmp 36)) none none, type := 27, pos := "reader.go:30", after := #[{ on := 7, ground := Go.Ground.data }, { on := 17, ground := Go.Ground.data }], guard := none }) (v := .slice none 0 0) hNW (by decide) rfl (by kernel_rfl) (by kernel_rfl) (by kernel_rfl) (by kernel_rfl) (fun _ _ _ h => h) (Or.inl ⟨by kernel_rfl, ?h48_18⟩) (by assumption) ?r48_18
    case h48_18 => (intro wt hSw; (try dsimp only at hSw); go_simp; try rfl)
    simp only [Act.put, List.setIfInBounds_toArray, List.set_cons_zero, List.set_cons_succ]
    refine wpAnyF_two (i := 19) (j := 24) (o := { dst := some 38, op := Go.Op.call { callee := Go.Callee.value (Go.Operand.func 25), args := #[Go.Operand.tmp 22, Go.Operand.tmp 37], argTypes := #[60, 27] }, type := 56, pos := "reader.go:30", after := #[{ on := 3, ground := Go.Ground.data }, { on := 18, ground := Go.Ground.data }], guard := none }) (o' := { dst := some 5, op := Go.Op.alloc 41, type := 0, pos := "reader.go:30", after := #[], guard := none }) rfl rfl rfl rfl (by kernel_rfl) ?_ ?_
    · refine step_callx (f := 25) (args := #[.pointer (some ⟨p, 0, none⟩), .slice none 0 0]) (by first | kernel_rfl | go_simp) (HT.out _ (Below.refl _ _).drew) ?_
      rintro v2 w2 ⟨a9, n9, c9, rfl, hR2, hF2, hD2, hb2⟩
      have hz2 := hF2.size
      have k0' := hR2.row.cell 0 _ rfl
      have k1' := hR2.row.cell 1 _ rfl
      have k2' := hR2.row.cell 2 _ rfl
      have hHeld2 := (show (fun W => W.cell? ⟨q, 0, none⟩ = some (.pointer (some ⟨p, 0, none⟩)) ∧ W.cell? ⟨q, 1, none⟩ = some (.slice none 0 0) ∧ W.cell? ⟨q, 2, none⟩ = some (.int .i64 ((0 : Nat) : Int))) w2 from ⟨k0', k1', k2'⟩)
      refine ⟨fun _ => hHeld2, ?_⟩
      simp only [Act.put, List.setIfInBounds_toArray, List.set_cons_zero, List.set_cons_succ]
      refine wpAnyF_take (i := 20) (oi := { dst := some 18, op := Go.Op.move (Go.Operand.tmp 38), type := 56, pos := "reader.go:30", after := #[{ on := 19, ground := Go.Ground.data }], guard := none }) (v := ?v49_20) hNW (by decide) rfl (by kernel_rfl) (by kernel_rfl) (by kernel_rfl) (by kernel_rfl) (fun _ _ _ h => h) (Or.inl ⟨by kernel_rfl, ?h49_20⟩) (by assumption) ?r49_20
      case h49_20 => (intro wt hSw; (try dsimp only at hSw); go_simp; try with_reducible rfl)
      simp only [Act.put, List.setIfInBounds_toArray, List.set_cons_zero, List.set_cons_succ]
      refine wpAnyF_take (i := 21) (oi := { dst := some 39, op := Go.Op.extract (Go.Operand.tmp 18) 0, type := 41, pos := "reader.go:30", after := #[{ on := 20, ground := Go.Ground.data }], guard := none }) (v := ?v50_21) hNW (by decide) rfl (by kernel_rfl) (by kernel_rfl) (by kernel_rfl) (by kernel_rfl) (fun _ _ _ h => h) (Or.inl ⟨by kernel_rfl, ?h50_21⟩) (by assumption) ?r50_21
      case h50_21 => (intro wt hSw; (try dsimp only at hSw); go_simp; try with_reducible rfl)
      simp only [Act.put, List.setIfInBounds_toArray, List.set_cons_zero, List.set_cons_succ]
      refine wpAnyF_take (i := 22) (oi := { dst := some 40, op := Go.Op.extract (Go.Operand.tmp 18) 1, type := 3, pos := "reader.go:30", after := #[{ on := 20, ground := Go.Ground.data }, { on := 25, ground := Go.Ground.gcOnly Go.Departure.lateStores }], guard := none }) (v := ?v51_22) hNW (by decide) rfl (by kernel_rfl) (by kernel_rfl) (by kernel_rfl) (by kernel_rfl) (fun _ _ _ h => h) (Or.inl ⟨by kernel_rfl, ?h51_22⟩) (by assumption) ?r51_22
      case h51_22 => (intro wt hSw; (try dsimp only at hSw); go_simp; try with_reducible rfl)
      simp only [Act.put, List.setIfInBounds_toArray, List.set_cons_zero, List.set_cons_succ]
      refine wpAnyF_take (i := 23) (oi := { dst := some 41, op := Go.Op.extract (Go.Operand.tmp 18) 2, type := 42, pos := "reader.go:30", after := #[{ on := 20, ground := Go.Ground.data }, { on := 26, ground := Go.Ground.gcOnly Go.Departure.lateStores }], guard := none }) (v := ?v52_23) hNW (by decide) rfl (by kernel_rfl) (by kernel_rfl) (by kernel_rfl) (by kernel_rfl) (fun _ _ _ h => h) (Or.inl ⟨by kernel_rfl, ?h52_23⟩) (by assumption) ?r52_23
      case h52_23 => (intro wt hSw; (try dsimp only at hSw); go_simp; try with_reducible rfl)
      simp only [Act.put, List.setIfInBounds_toArray, List.set_cons_zero, List.set_cons_succ]
      refine wpAnyF_one (i := 24) (o := { dst := some 5, op := Go.Op.alloc 41, type := 0, pos := "reader.go:30", after := #[], guard := none }) rfl rfl (by kernel_rfl) ?_
      refine step_alloc25 rfl ?_
      have hb3 := below_new w2 (.cells #[.int .i64 0, .int .u64 0, .int .u64 0, .int .i64 0, .int .i64 0, .slice none 0 0] 41)
      have hR3 := hR2.kept hb3
      have hHeld3 := (show (fun W => W.cell? ⟨q, 0, none⟩ = some (.pointer (some ⟨p, 0, none⟩)) ∧ W.cell? ⟨q, 1, none⟩ = some (.slice none 0 0) ∧ W.cell? ⟨q, 2, none⟩ = some (.int .i64 ((0 : Nat) : Int))) (w2.alloc (.cells #[.int .i64 0, .int .u64 0, .int .u64 0, .int .i64 0, .int .i64 0, .slice none 0 0] 41)) from ⟨hR3.row.cell 0 _ rfl, hR3.row.cell 1 _ rfl, hR3.row.cell 2 _ rfl⟩)
      refine ⟨fun _ => hHeld3, ?_⟩
      simp only [Act.put, List.setIfInBounds_toArray, List.set_cons_zero, List.set_cons_succ]
      have hbx := Row.new w2 [.int .i64 0, .int .u64 0, .int .u64 0, .int .i64 0, .int .i64 0, .slice none 0 0] 41
      have hNx := Nx.mk' (w := w) (G := G) hbx (hb2.kept hb3 hb2.lt) (by have := hb2.lt; omega) hR3 ((hD2.frT (S := fun _ => False) (Fr.of_below hb3 (Nat.le_refl _)) (fun _ _ _ _ e => e))) (((Fr.of_below (S := fun x => x = p) HB1.out (Nat.le_refl _)).trans ⟨hF2.os, hF2.tape, hF2.output, hF2.size, hF2.block⟩ (fun x e => .inl e)).trans (T := fun _ => False) (Fr.of_below hb3 (Nat.le_refl _)) (fun _ e => e.elim)) (Nat.le_trans HB1.out.size hz2) (Nat.le_of_eq HB0.out.symm)
      refine wpAnyF_one (i := 25) (o := { dst := none, op := Go.Op.store 41 (Go.Operand.tmp 5) (Go.Operand.tmp 39), type := 0, pos := "reader.go:30", after := #[{ on := 24, ground := Go.Ground.data }, { on := 21, ground := Go.Ground.data }, { on := 19, ground := Go.Ground.chain }, { on := 0, ground := Go.Ground.phase }, { on := 1, ground := Go.Ground.phase }, { on := 2, ground := Go.Ground.phase }, { on := 3, ground := Go.Ground.phase }, { on := 4, ground := Go.Ground.phase }, { on := 5, ground := Go.Ground.phase }, { on := 6, ground := Go.Ground.phase }, { on := 7, ground := Go.Ground.phase }, { on := 8, ground := Go.Ground.phase }, { on := 9, ground := Go.Ground.phase }, { on := 10, ground := Go.Ground.phase }, { on := 11, ground := Go.Ground.phase }, { on := 12, ground := Go.Ground.phase }, { on := 13, ground := Go.Ground.phase }, { on := 14, ground := Go.Ground.phase }, { on := 15, ground := Go.Ground.phase }, { on := 16, ground := Go.Ground.phase }, { on := 17, ground := Go.Ground.phase }, { on := 18, ground := Go.Ground.phase }, { on := 19, ground := Go.Ground.phase }, { on := 20, ground := Go.Ground.phase }, { on := 21, ground := Go.Ground.phase }, { on := 22, ground := Go.Ground.textOnly Go.Departure.lateStores }, { on := 23, ground := Go.Ground.textOnly Go.Departure.lateStores }, { on := 24, ground := Go.Ground.phase }], guard := none }) rfl rfl (by kernel_rfl) ?_
      refine step_store25 (b := w2.heap.size) rfl rfl rfl hbx ?_
      have hHeld4 := (show (fun W => W.cell? ⟨q, 0, none⟩ = some (.pointer (some ⟨p, 0, none⟩)) ∧ W.cell? ⟨q, 1, none⟩ = some (.slice none 0 0) ∧ W.cell? ⟨q, 2, none⟩ = some (.int .i64 ((0 : Nat) : Int))) (six (w2.alloc (.cells #[.int .i64 0, .int .u64 0, .int .u64 0, .int .i64 0, .int .i64 0, .slice none 0 0] 41)) w2.heap.size G.k G.s G.n G.c G.h (.slice a9 n9 c9)) from ⟨hNx.rd.row.cell 0 _ rfl, hNx.rd.row.cell 1 _ rfl, hNx.rd.row.cell 2 _ rfl⟩)
      refine ⟨fun _ => hHeld4, ?_⟩
      simp only [Act.put]
      refine wpAnyF_take (i := 26) (oi := { dst := some 6, op := Go.Op.assign (Go.Operand.tmp 40), type := 3, pos := "reader.go:30", after := #[{ on := 22, ground := Go.Ground.data }, { on := 25, ground := Go.Ground.chain }, { on := 0, ground := Go.Ground.phase }, { on := 1, ground := Go.Ground.phase }, { on := 2, ground := Go.Ground.phase }, { on := 3, ground := Go.Ground.phase }, { on := 4, ground := Go.Ground.phase }, { on := 5, ground := Go.Ground.phase }, { on := 6, ground := Go.Ground.phase }, { on := 7, ground := Go.Ground.phase }, { on := 8, ground := Go.Ground.phase }, { on := 9, ground := Go.Ground.phase }, { on := 10, ground := Go.Ground.phase }, { on := 11, ground := Go.Ground.phase }, { on := 12, ground := Go.Ground.phase }, { on := 13, ground := Go.Ground.phase }, { on := 14, ground := Go.Ground.phase }, { on := 15, ground := Go.Ground.phase }, { on := 16, ground := Go.Ground.phase }, { on := 17, ground := Go.Ground.phase }, { on := 18, ground := Go.Ground.phase }, { on := 19, ground := Go.Ground.phase }, { on := 20, ground := Go.Ground.phase }, { on := 21, ground := Go.Ground.phase }, { on := 22, ground := Go.Ground.phase }, { on := 23, ground := Go.Ground.textOnly Go.Departure.lateStores }, { on := 24, ground := Go.Ground.phase }, { on := 25, ground := Go.Ground.phase }], guard := none }) (v := ?v53_26) hNW (by decide) rfl (by kernel_rfl) (by kernel_rfl) (by kernel_rfl) (by kernel_rfl) (fun _ _ _ h => h) (Or.inl ⟨by kernel_rfl, ?h53_26⟩) (by assumption) ?r53_26
      case h53_26 => (intro wt hSw; (try dsimp only at hSw); go_simp; try with_reducible rfl)
      simp only [Act.put, List.setIfInBounds_toArray, List.set_cons_zero, List.set_cons_succ]
      refine wpAnyF_one (i := 27) (o := { dst := some 7, op := Go.Op.assign (Go.Operand.tmp 41), type := 42, pos := "reader.go:30", after := #[{ on := 23, ground := Go.Ground.data }, { on := 26, ground := Go.Ground.chain }, { on := 0, ground := Go.Ground.phase }, { on := 1, ground := Go.Ground.phase }, { on := 2, ground := Go.Ground.phase }, { on := 3, ground := Go.Ground.phase }, { on := 4, ground := Go.Ground.phase }, { on := 5, ground := Go.Ground.phase }, { on := 6, ground := Go.Ground.phase }, { on := 7, ground := Go.Ground.phase }, { on := 8, ground := Go.Ground.phase }, { on := 9, ground := Go.Ground.phase }, { on := 10, ground := Go.Ground.phase }, { on := 11, ground := Go.Ground.phase }, { on := 12, ground := Go.Ground.phase }, { on := 13, ground := Go.Ground.phase }, { on := 14, ground := Go.Ground.phase }, { on := 15, ground := Go.Ground.phase }, { on := 16, ground := Go.Ground.phase }, { on := 17, ground := Go.Ground.phase }, { on := 18, ground := Go.Ground.phase }, { on := 19, ground := Go.Ground.phase }, { on := 20, ground := Go.Ground.phase }, { on := 21, ground := Go.Ground.phase }, { on := 22, ground := Go.Ground.phase }, { on := 23, ground := Go.Ground.phase }, { on := 24, ground := Go.Ground.phase }, { on := 25, ground := Go.Ground.phase }, { on := 26, ground := Go.Ground.phase }], guard := none }) rfl rfl (by kernel_rfl) ?_
      refine step_valueR (v := .int .i64 er) (w' := six (w2.alloc (.cells #[.int .i64 0, .int .u64 0, .int .u64 0, .int .i64 0, .int .i64 0, .slice none 0 0] 41)) w2.heap.size G.k G.s G.n G.c G.h (.slice a9 n9 c9)) (by first | kernel_rfl | go_simp) ?_
      refine ⟨fun h => absurd rfl h, ?_⟩
      simp only [Act.put, List.setIfInBounds_toArray, List.set_cons_zero, List.set_cons_succ]
      refine wpAnyF_done (by kernel_rfl) ?_ _
      clear hNW hHeld hHeld2 hHeld3 hHeld4
      go_wp2
      go_meet
      exact ⟨_, a9, n9, c9, rfl, rfl, rfl, hNx⟩
    · refine step_alloc25 rfl ?_
      have hb3 := below_new w1.drew (.cells #[.int .i64 0, .int .u64 0, .int .u64 0, .int .i64 0, .int .i64 0, .slice none 0 0] 41)
      have hR3 := (H1.out.kept (Below.refl _ _).drew).kept hb3
      have hHeld3 := (show (fun W => W.cell? ⟨q, 0, none⟩ = some (.pointer (some ⟨p, 0, none⟩)) ∧ W.cell? ⟨q, 1, none⟩ = some (.slice none 0 0) ∧ W.cell? ⟨q, 2, none⟩ = some (.int .i64 ((0 : Nat) : Int))) (w1.drew.alloc (.cells #[.int .i64 0, .int .u64 0, .int .u64 0, .int .i64 0, .int .i64 0, .slice none 0 0] 41)) from ⟨hR3.row.cell 0 _ rfl, hR3.row.cell 1 _ rfl, hR3.row.cell 2 _ rfl⟩)
      refine ⟨fun _ => hHeld3, ?_⟩
      simp only [Act.put, List.setIfInBounds_toArray, List.set_cons_zero, List.set_cons_succ]
      refine wpAnyF_one (i := 19) (o := { dst := some 38, op := Go.Op.call { callee := Go.Callee.value (Go.Operand.func 25), args := #[Go.Operand.tmp 22, Go.Operand.tmp 37], argTypes := #[60, 27] }, type := 56, pos := "reader.go:30", after := #[{ on := 3, ground := Go.Ground.data }, { on := 18, ground := Go.Ground.data }], guard := none }) rfl rfl (by kernel_rfl) ?_
      refine step_callx (f := 25) (args := #[.pointer (some ⟨p, 0, none⟩), .slice none 0 0]) (by first | kernel_rfl | go_simp) (HT.out _ ((Below.refl _ _).drew.trans hb3)) ?_
      rintro v2 w2 ⟨a9, n9, c9, rfl, hR2, hF2, hD2, hb2⟩
      have hbx0 := Row.new w1.drew [.int .i64 0, .int .u64 0, .int .u64 0, .int .i64 0, .int .i64 0, .slice none 0 0] 41
      have hbx := hF2.row hbx0 (fun e => by have := row_type (by rw [← e]; exact hbx0) hR3.sc.row; cases this)
      have k0' := hR2.row.cell 0 _ rfl
      have k1' := hR2.row.cell 1 _ rfl
      have k2' := hR2.row.cell 2 _ rfl
      have hHeld2 := (show (fun W => W.cell? ⟨q, 0, none⟩ = some (.pointer (some ⟨p, 0, none⟩)) ∧ W.cell? ⟨q, 1, none⟩ = some (.slice none 0 0) ∧ W.cell? ⟨q, 2, none⟩ = some (.int .i64 ((0 : Nat) : Int))) w2 from ⟨k0', k1', k2'⟩)
      refine ⟨fun _ => hHeld2, ?_⟩
      simp only [Act.put, List.setIfInBounds_toArray, List.set_cons_zero, List.set_cons_succ]
      refine wpAnyF_take (i := 20) (oi := { dst := some 18, op := Go.Op.move (Go.Operand.tmp 38), type := 56, pos := "reader.go:30", after := #[{ on := 19, ground := Go.Ground.data }], guard := none }) (v := ?v54_20) hNW (by decide) rfl (by kernel_rfl) (by kernel_rfl) (by kernel_rfl) (by kernel_rfl) (fun _ _ _ h => h) (Or.inl ⟨by kernel_rfl, ?h54_20⟩) (by assumption) ?r54_20
      case h54_20 => (intro wt hSw; (try dsimp only at hSw); go_simp; try with_reducible rfl)
      simp only [Act.put, List.setIfInBounds_toArray, List.set_cons_zero, List.set_cons_succ]
      refine wpAnyF_take (i := 21) (oi := { dst := some 39, op := Go.Op.extract (Go.Operand.tmp 18) 0, type := 41, pos := "reader.go:30", after := #[{ on := 20, ground := Go.Ground.data }], guard := none }) (v := ?v55_21) hNW (by decide) rfl (by kernel_rfl) (by kernel_rfl) (by kernel_rfl) (by kernel_rfl) (fun _ _ _ h => h) (Or.inl ⟨by kernel_rfl, ?h55_21⟩) (by assumption) ?r55_21
      case h55_21 => (intro wt hSw; (try dsimp only at hSw); go_simp; try with_reducible rfl)
      simp only [Act.put, List.setIfInBounds_toArray, List.set_cons_zero, List.set_cons_succ]
      refine wpAnyF_take (i := 22) (oi := { dst := some 40, op := Go.Op.extract (Go.Operand.tmp 18) 1, type := 3, pos := "reader.go:30", after := #[{ on := 20, ground := Go.Ground.data }, { on := 25, ground := Go.Ground.gcOnly Go.Departure.lateStores }], guard := none }) (v := ?v56_22) hNW (by decide) rfl (by kernel_rfl) (by kernel_rfl) (by kernel_rfl) (by kernel_rfl) (fun _ _ _ h => h) (Or.inl ⟨by kernel_rfl, ?h56_22⟩) (by assumption) ?r56_22
      case h56_22 => (intro wt hSw; (try dsimp only at hSw); go_simp; try with_reducible rfl)
      simp only [Act.put, List.setIfInBounds_toArray, List.set_cons_zero, List.set_cons_succ]
      refine wpAnyF_take (i := 23) (oi := { dst := some 41, op := Go.Op.extract (Go.Operand.tmp 18) 2, type := 42, pos := "reader.go:30", after := #[{ on := 20, ground := Go.Ground.data }, { on := 26, ground := Go.Ground.gcOnly Go.Departure.lateStores }], guard := none }) (v := ?v57_23) hNW (by decide) rfl (by kernel_rfl) (by kernel_rfl) (by kernel_rfl) (by kernel_rfl) (fun _ _ _ h => h) (Or.inl ⟨by kernel_rfl, ?h57_23⟩) (by assumption) ?r57_23
      case h57_23 => (intro wt hSw; (try dsimp only at hSw); go_simp; try with_reducible rfl)
      simp only [Act.put, List.setIfInBounds_toArray, List.set_cons_zero, List.set_cons_succ]
      have hNx := Nx.mk' (w := w) (G := G) hbx hb2 (by have h1 : w1.drew.heap.size = b0 + 1 := HZ1.out; omega) hR2 hD2 ((((Fr.of_below (S := fun x => x = p) HB1.out (Nat.le_refl _)).trans (T := fun _ => False) (Fr.of_below (Below.refl _ _).drew (Nat.le_refl _)) (fun _ e => e.elim)).trans (T := fun _ => False) (Fr.of_below hb3 (Nat.le_refl _)) (fun _ e => e.elim)).trans hF2 (fun x e => .inl e)) HB1.out.size (Nat.le_of_eq HB0.out.symm)
      refine wpAnyF_one (i := 25) (o := { dst := none, op := Go.Op.store 41 (Go.Operand.tmp 5) (Go.Operand.tmp 39), type := 0, pos := "reader.go:30", after := #[{ on := 24, ground := Go.Ground.data }, { on := 21, ground := Go.Ground.data }, { on := 19, ground := Go.Ground.chain }, { on := 0, ground := Go.Ground.phase }, { on := 1, ground := Go.Ground.phase }, { on := 2, ground := Go.Ground.phase }, { on := 3, ground := Go.Ground.phase }, { on := 4, ground := Go.Ground.phase }, { on := 5, ground := Go.Ground.phase }, { on := 6, ground := Go.Ground.phase }, { on := 7, ground := Go.Ground.phase }, { on := 8, ground := Go.Ground.phase }, { on := 9, ground := Go.Ground.phase }, { on := 10, ground := Go.Ground.phase }, { on := 11, ground := Go.Ground.phase }, { on := 12, ground := Go.Ground.phase }, { on := 13, ground := Go.Ground.phase }, { on := 14, ground := Go.Ground.phase }, { on := 15, ground := Go.Ground.phase }, { on := 16, ground := Go.Ground.phase }, { on := 17, ground := Go.Ground.phase }, { on := 18, ground := Go.Ground.phase }, { on := 19, ground := Go.Ground.phase }, { on := 20, ground := Go.Ground.phase }, { on := 21, ground := Go.Ground.phase }, { on := 22, ground := Go.Ground.textOnly Go.Departure.lateStores }, { on := 23, ground := Go.Ground.textOnly Go.Departure.lateStores }, { on := 24, ground := Go.Ground.phase }], guard := none }) rfl rfl (by kernel_rfl) ?_
      refine step_store25 (b := w1.drew.heap.size) rfl rfl rfl hbx ?_
      have hHeld4 := (show (fun W => W.cell? ⟨q, 0, none⟩ = some (.pointer (some ⟨p, 0, none⟩)) ∧ W.cell? ⟨q, 1, none⟩ = some (.slice none 0 0) ∧ W.cell? ⟨q, 2, none⟩ = some (.int .i64 ((0 : Nat) : Int))) (six w2 w1.drew.heap.size G.k G.s G.n G.c G.h (.slice a9 n9 c9)) from ⟨hNx.rd.row.cell 0 _ rfl, hNx.rd.row.cell 1 _ rfl, hNx.rd.row.cell 2 _ rfl⟩)
      refine ⟨fun _ => hHeld4, ?_⟩
      simp only [Act.put]
      refine wpAnyF_take (i := 26) (oi := { dst := some 6, op := Go.Op.assign (Go.Operand.tmp 40), type := 3, pos := "reader.go:30", after := #[{ on := 22, ground := Go.Ground.data }, { on := 25, ground := Go.Ground.chain }, { on := 0, ground := Go.Ground.phase }, { on := 1, ground := Go.Ground.phase }, { on := 2, ground := Go.Ground.phase }, { on := 3, ground := Go.Ground.phase }, { on := 4, ground := Go.Ground.phase }, { on := 5, ground := Go.Ground.phase }, { on := 6, ground := Go.Ground.phase }, { on := 7, ground := Go.Ground.phase }, { on := 8, ground := Go.Ground.phase }, { on := 9, ground := Go.Ground.phase }, { on := 10, ground := Go.Ground.phase }, { on := 11, ground := Go.Ground.phase }, { on := 12, ground := Go.Ground.phase }, { on := 13, ground := Go.Ground.phase }, { on := 14, ground := Go.Ground.phase }, { on := 15, ground := Go.Ground.phase }, { on := 16, ground := Go.Ground.phase }, { on := 17, ground := Go.Ground.phase }, { on := 18, ground := Go.Ground.phase }, { on := 19, ground := Go.Ground.phase }, { on := 20, ground := Go.Ground.phase }, { on := 21, ground := Go.Ground.phase }, { on := 22, ground := Go.Ground.phase }, { on := 23, ground := Go.Ground.textOnly Go.Departure.lateStores }, { on := 24, ground := Go.Ground.phase }, { on := 25, ground := Go.Ground.phase }], guard := none }) (v := ?v58_26) hNW (by decide) rfl (by kernel_rfl) (by kernel_rfl) (by kernel_rfl) (by kernel_rfl) (fun _ _ _ h => h) (Or.inl ⟨by kernel_rfl, ?h58_26⟩) (by assumption) ?r58_26
      case h58_26 => (intro wt hSw; (try dsimp only at hSw); go_simp; try with_reducible rfl)
      simp only [Act.put, List.setIfInBounds_toArray, List.set_cons_zero, List.set_cons_succ]
      refine wpAnyF_one (i := 27) (o := { dst := some 7, op := Go.Op.assign (Go.Operand.tmp 41), type := 42, pos := "reader.go:30", after := #[{ on := 23, ground := Go.Ground.data }, { on := 26, ground := Go.Ground.chain }, { on := 0, ground := Go.Ground.phase }, { on := 1, ground := Go.Ground.phase }, { on := 2, ground := Go.Ground.phase }, { on := 3, ground := Go.Ground.phase }, { on := 4, ground := Go.Ground.phase }, { on := 5, ground := Go.Ground.phase }, { on := 6, ground := Go.Ground.phase }, { on := 7, ground := Go.Ground.phase }, { on := 8, ground := Go.Ground.phase }, { on := 9, ground := Go.Ground.phase }, { on := 10, ground := Go.Ground.phase }, { on := 11, ground := Go.Ground.phase }, { on := 12, ground := Go.Ground.phase }, { on := 13, ground := Go.Ground.phase }, { on := 14, ground := Go.Ground.phase }, { on := 15, ground := Go.Ground.phase }, { on := 16, ground := Go.Ground.phase }, { on := 17, ground := Go.Ground.phase }, { on := 18, ground := Go.Ground.phase }, { on := 19, ground := Go.Ground.phase }, { on := 20, ground := Go.Ground.phase }, { on := 21, ground := Go.Ground.phase }, { on := 22, ground := Go.Ground.phase }, { on := 23, ground := Go.Ground.phase }, { on := 24, ground := Go.Ground.phase }, { on := 25, ground := Go.Ground.phase }, { on := 26, ground := Go.Ground.phase }], guard := none }) rfl rfl (by kernel_rfl) ?_
      refine step_valueR (v := .int .i64 er) (w' := six w2 w1.drew.heap.size G.k G.s G.n G.c G.h (.slice a9 n9 c9)) (by first | kernel_rfl | go_simp) ?_
      refine ⟨fun h => absurd rfl h, ?_⟩
      simp only [Act.put, List.setIfInBounds_toArray, List.set_cons_zero, List.set_cons_succ]
      refine wpAnyF_done (by kernel_rfl) ?_ _
      clear hNW hHeld hHeld2 hHeld3 hHeld4
      go_wp2
      go_meet
      exact ⟨_, a9, n9, c9, rfl, rfl, rfl, hNx⟩
  case rest =>
    obtain ⟨bx, a9, n9, c9, rfl, rfl, rfl, hN⟩ := hcut
    have HN := hid hN
    have HOL : Hid (∀ x, (.slice none 0 0 : Value).ownBlock = some x → x < w.heap.size) := fun x hx => own_lt' HH.out.own hx
    clear hN c0 c1 c2 c4 HT HW1
    by_cases h0 : er = 0
    · subst h0
      obtain ⟨t1, t2⟩ := HTR.out HER.out
      rw [HTN.out] at t1 t2
      have HGV := hid (give_any HN.out.rd (n := tn) t2 t1 (by have := HA.out; omega) HL.out)
      clear t1 t2
      go_upto_region 7 with (go_at_call 26; refine HGV.out.mono ?_; rintro e w4 ⟨rfl, v', all', e1, hR4, e2, e3, hF4⟩; have HE := hid (And.intro e1 (And.intro e2 e3)); have HR4 := hid hR4; have HF4 := hid hF4; clear e1 e2 e3 hR4 hF4 HGV)
      have hty : ∀ b c, Row wc b c 41 → ¬ (b = q ∨ (.slice none 0 0 : Value).ownBlock = some b) := fun b c hr e => by
        rcases e with e | e
        · have := row_type (by rw [← e]; exact hr) HN.out.rd.row
          cases this
        · have := own_type HN.out.rd.own e hr
          cases this
      have hbx4 := HF4.out.row HN.out.box (hty _ _ HN.out.box)
      have hb04 := HF4.out.row HN.out.res (hty _ _ HN.out.res)
      have y0 := hbx4.cell 0 _ rfl
      have y1 := hbx4.cell 1 _ rfl
      have y2 := hbx4.cell 2 _ rfl
      have y3 := hbx4.cell 3 _ rfl
      have y4 := hbx4.cell 4 _ rfl
      have y5 := hbx4.cell 5 _ rfl
      have z0 := hb04.cell 0 _ rfl
      have z1 := hb04.cell 1 _ rfl
      have z2 := hb04.cell 2 _ rfl
      have z3 := hb04.cell 3 _ rfl
      have z4 := hb04.cell 4 _ rfl
      have z5 := hb04.cell 5 _ rfl
      have f0 := hb04.frozen 0
      have f1 := hb04.frozen 1
      have f2 := hb04.frozen 2
      have f3 := hb04.frozen 3
      have f4 := hb04.frozen 4
      have f5 := hb04.frozen 5
      have HB4 := hid hb04
      clear hty hbx4 hb04
      go_wp2
      refine next_door (b0 := b0) rfl rfl rfl (six_row G.k G.s G.n G.c G.h (.slice a9 n9 c9) HB4.out) ?_
      have F := six_fr w4 b0 G.k G.s G.n G.c G.h (.slice a9 n9 c9)
      refine .inl ⟨HER.out, a9, n9, c9, v', all', by rw [HG.out]; rfl, ?_, HE.out.1, ?_, ?_, HE.out.2.2, ?_⟩
      · rw [HG.out]
        refine (HN.out.dt.frT HF4.out (fun g c hr hg e => ?_)).frT F (fun g c hr _ e => ?_)
        · rcases e with e | e
          · have := row_type (by rw [← e]; exact hr) HN.out.rd.row
            cases this
          · have := HOL.out _ e
            omega
        · have := row_type (by rw [← e]; exact hr) HB4.out
          cases this
      · rw [HTN.out]
        exact HR4.out.frB HB4.out F
      · rw [HTN.out, HE.out.2.1, ← HLE.out, List.drop_drop]
        congr 1
        have h1 := HTR.out HER.out
        rw [HTN.out] at h1
        have h2 := HH.out.le
        omega
      · exact ((HN.out.fr.wider (T := fun x => x = q ∨ x = p ∨ (.slice none 0 0 : Value).ownBlock = some x) (fun x e => .inr (.inl e))).trans HF4.out (fun x e => .inl (e.imp id .inr))).trans F (fun x e => .inr (by rw [e]; exact HN.out.g0))
    · have hb04 := HN.out.res
      have z0 := hb04.cell 0 _ rfl
      have z1 := hb04.cell 1 _ rfl
      have z2 := hb04.cell 2 _ rfl
      have z3 := hb04.cell 3 _ rfl
      have z4 := hb04.cell 4 _ rfl
      have z5 := hb04.cell 5 _ rfl
      have f0 := hb04.frozen 0
      have f1 := hb04.frozen 1
      have f2 := hb04.frozen 2
      have f3 := hb04.frozen 3
      have f4 := hb04.frozen 4
      have f5 := hb04.frozen 5
      have e0 : (er == 0) = false := by simpa using h0
      clear hb04
      by_cases h1 : er = 174
      · subst h1
        go_wp2
        refine next_door (b0 := b0) rfl rfl rfl (six_row 0 0 0 0 0 (.slice none 0 0) HN.out.res) ?_
        have F := six_fr wc b0 0 0 0 0 0 (.slice none 0 0)
        exact .inr (.inl ⟨HER.out, rfl, HN.out.rd.frB HN.out.res F, HN.out.fr.trans F (fun x e => .inr (by rw [e]; exact HN.out.g0))⟩)
      · have e1 : (er == 174) = false := by simpa using h1
        have c1 := HN.out.rd.row.cell 1 _ rfl
        have c4 := HN.out.rd.row.cell 4 _ rfl
        have g1 := HN.out.rd.row.frozen 1
        have g4 := HN.out.rd.row.frozen 4
        have hqb : ¬ q = b0 := fun e => by
          have := row_type (by rw [e]; exact HN.out.res) HN.out.rd.row
          cases this
        have hbq : ¬ b0 = q := fun e => hqb e.symm
        go_wp2
        have F0 : Fr (fun x => x = q) wc ((wc.setCell ⟨q, 4, none⟩ (.int .i64 er)).setCell ⟨q, 1, none⟩ (.slice none 0 0)) := (fr_set wc q 4 _).trans (fr_set _ q 1 _) (fun x e => .inl e)
        have hb5 := F0.row HN.out.res hbq
        refine next_door (b0 := b0) rfl rfl rfl (six_row 0 0 0 0 0 (.slice none 0 0) hb5) ?_
        have F := six_fr ((wc.setCell ⟨q, 4, none⟩ (.int .i64 er)).setCell ⟨q, 1, none⟩ (.slice none 0 0)) b0 0 0 0 0 0 (.slice none 0 0)
        refine .inr (.inr ⟨by rw [HER.out]; exact h0, by rw [HER.out]; exact h1, by rw [HER.out]; rfl, ⟨?_, HN.out.rd.bq, by rw [HER.out]; exact h0⟩, ?_⟩)
        · rw [HER.out]
          exact F.row ((HN.out.rd.row.set 4 (.int .i64 er)).set 1 (.slice none 0 0)) hqb
        · exact ((HN.out.fr.wider (T := fun x => x = q ∨ x = p) (fun x e => .inr e)).trans F0 (fun x e => .inl (.inl e))).trans F (fun x e => .inr (by rw [e]; exact HN.out.g0))
end Go.Proofs.Ytkhogbnoincbeab
