import Derived.Test.YtfhjiggaacgncaaDoorTx2
import Derived.Test.YtfhjiggaacgncaaDoorReg0
import Derived.Laws.AppendOwnNone
namespace Go.Proofs.YtfhjiggaacgncaaDoor.Tx
open Go.RowKit Go.Maps Go.Sort
set_option maxRecDepth 100000

theorem box_cell (w : World) (t : TypeId) (c : Array Value) (j : Nat) (v : Value) (h : c[j]? = some v) : (w.alloc (.cells c t)).cell? ⟨w.heap.size, j, none⟩ = some v := by
  rw [cell_of_row _ _ _ _ _ _ (heap_alloc_new w _)]
  exact h
theorem i33 : (Tryd.prog.info? 44).map (·.size) = some 1 := by kernel_rfl
section
variable {ops : Array Oper} {o : Oper} {a : Act} {w : World} {K : Act → World → Prop} {Q : Exit → Act → World → Prop}
theorem wpOp_of {P : Program} {i : Nat} (ho : ops[i]? = some o) (hg : o.guard = none) (h : o.wp P a w K Q) : wpOp P ops Q i K a w := by
  unfold wpOp
  rw [ho]
  simp only [Region.wanted, hg]
  exact .inl h
theorem step_move {x : Operand} {v : Value} (ho : o.op = .move x) (hx : a.eval x = v) (h : K (a.put o.dst v) w) : Oper.wp Tryd.prog o a w K Q :=
  step_value (w' := w) (by generalize a.eval = r at *; simp [execOp, ho, hx, go_sem]) h
theorem step_nilc {x : Operand} {ad : Addr} (ho : o.op = .nilCheck x) (hx : a.eval x = .pointer (some ad)) (h : K (a.put o.dst (.pointer (some ad))) w) : Oper.wp Tryd.prog o a w K Q :=
  step_value (w' := w) (by generalize a.eval = r at *; simp [execOp, ho, hx, go_sem]) h
theorem step_f350 {x : Operand} {b : Nat} (ho : o.op = .fieldAddr 67 x 0) (hx : a.eval x = .pointer (some ⟨b, 0, none⟩)) (h : K (a.put o.dst (.pointer (some ⟨b, 0, none⟩))) w) : Oper.wp Tryd.prog o a w K Q :=
  step_value (w' := w) (by generalize a.eval = r at *; simp [execOp, ho, hx, go_sem]) h
theorem step_f351 {x : Operand} {b : Nat} (ho : o.op = .fieldAddr 67 x 1) (hx : a.eval x = .pointer (some ⟨b, 0, none⟩)) (h : K (a.put o.dst (.pointer (some ⟨b, 1, none⟩))) w) : Oper.wp Tryd.prog o a w K Q :=
  step_value (w' := w) (by generalize a.eval = r at *; simp [execOp, ho, hx, go_sem]) h
theorem step_load33 {x : Operand} {ad : Addr} {av : Option Addr} {n c : Nat} (ho : o.op = .load 44 x) (hx : a.eval x = .pointer (some ad)) (hc : w.cell? ad = some (.slice av n c)) (h : K (a.put o.dst (.slice av n c)) w) : Oper.wp Tryd.prog o a w K Q :=
  step_value (w' := w) (by have hi := i33; generalize a.eval = r at *; simp [execOp, ho, hx, hc, go_sem]) h
theorem step_build33 {x : Operand} {ad : Option Addr} {len cap : Nat} (ho : o.op = .buildSlice 44 1 #[(0, x)]) (hx : a.eval x = .slice ad len cap) (h : K (a.put o.dst (.slice (some ⟨w.heap.size, 0, none⟩) 1 1)) (w.alloc (.cells #[.slice ad len cap] 30))) : Oper.wp Tryd.prog o a w K Q :=
  step_value (w' := w.alloc (.cells #[.slice ad len cap] 30)) (by generalize a.eval = r at *; simp [execOp, ho, hx, go_sem]) h
theorem step_app {s x : Operand} {t u : TypeId} {vs vx v : Value} {w' : World} (ho : o.op = .call { callee := .builtin .append, args := #[s, x], argTypes := #[t, u] }) (hs : a.eval s = vs) (hx : a.eval x = vx)
    (hr : (Builtin.append_ #[t, u] o.type #[vs, vx]).run Tryd.prog w = .ok v w') (h : K (a.put o.dst v) w') : Oper.wp Tryd.prog o a w K Q := by
  unfold Oper.wp execOp
  simp only [ho, resolve, invoke, builtin, Sem.run_bind, Sem.run_pure, Result.andThen_ok, List.map_toArray, List.map_cons, List.map_nil, hs, hx, hr]
  exact h
theorem step_copy {x : Operand} {v : Value} {G : Value → World → Prop} (ho : o.op = .call { callee := .value (.func 20), args := #[x], argTypes := #[30] }) (hx : a.eval x = v)
    (hc : Calls Tryd.prog 20 #[v] w fun e w' => ∃ r, e = .returned r ∧ G r w') (h : ∀ r w', G r w' → K (a.put o.dst r) w') : Oper.wp Tryd.prog o a w K Q :=
  step_callv (f := 20) (args := #[a.eval x]) (by simp [execOp, ho, resolve, invoke, go_sem]) (by rw [hx]; exact hc) h
theorem step_store33 {x y : Operand} {b k : Nat} {av : Option Addr} {n c : Nat} {old : Value} (ho : o.op = .store 44 x y) (hx : a.eval x = .pointer (some ⟨b, k, none⟩)) (hy : a.eval y = .slice av n c) (hc : w.cell? ⟨b, k, none⟩ = some old) (hf : w.frozen? ⟨b, k, none⟩ = false)
    (h : K (a.put o.dst undef) (w.setCell ⟨b, k, none⟩ (.slice av n c))) : Oper.wp Tryd.prog o a w K Q := by
  have hi := i33
  have e : (execOp a.eval o).run Tryd.prog w = .ok .skip (w.setCell ⟨b, k, none⟩ (.slice av n c)) := by
    generalize a.eval = r at *
    simp [execOp, ho, hx, hy, hc, hf, go_sem]
  unfold Oper.wp
  rw [e]
  exact h
end
/-- What the book's call leaves: only its own memory is turned. -/
structure Kept (w w' : World) (b : Nat) (lv wv : Value) : Prop where
  os : w'.os = w.os
  tape : w'.tape = w.tape
  output : w'.output = w.output
  size : w.heap.size ≤ w'.heap.size
  block : ∀ k, k < w.heap.size → k ≠ b → some k ≠ lv.ownBlock → some k ≠ wv.ownBlock → w'.heap[k]? = w.heap[k]?

/-- What each slot of Keep's last statement holds. -/
def KeepS (W0 B b : Nat) (wv u : Value) (R : List (BitVec 8)) (Y : List Value) (i : Nat) (v : Value) (w : World) : Prop :=
  match i with
  | 0 | 1 | 2 | 9 => v = .pointer (some ⟨b, 0, none⟩)
  | 3 | 10 => v = .pointer (some ⟨b, 1, none⟩)
  | 4 => v = wv
  | 5 => v = u
  | 6 => w.ownsRow W0 5 1 v R.length (bcells R)
  | 7 => ∃ g v7, v = .slice (some ⟨g, 0, none⟩) 1 1 ∧ W0 ≤ g ∧ w.cell? ⟨g, 0, none⟩ = some v7 ∧ w.ownsRow W0 5 1 v7 R.length (bcells R)
  | 8 => ∃ v7, w.ownsRow W0 5 1 v7 R.length (bcells R) ∧ w.ownsRow B 30 1 v (Y.length + 1) (Y ++ [v7]) ∧ (v.ownBlock = wv.ownBlock ∨ ∃ g, v.ownBlock = some g ∧ W0 ≤ g)
  | _ => True
theorem KeepS.kept {W0 B b : Nat} {wv u : Value} {R : List (BitVec 8)} {Y : List Value} {w w' : World} (hb : Below w.heap.size w w') (i : Nat) (v : Value) (h : KeepS W0 B b wv u R Y i v w) : KeepS W0 B b wv u R Y i v w' := by
  unfold KeepS at h ⊢
  split at h <;> (try exact h)
  · exact own_below h hb
  · obtain ⟨g, v7, h1, h2, h3, h4⟩ := h
    exact ⟨g, v7, h1, h2, cell_kept hb h3, own_below h4 hb⟩
  · obtain ⟨v7, h1, h2, h3⟩ := h
    exact ⟨v7, own_below h1 hb, own_below h2 hb, h3⟩
theorem cells_far {w w' : World} {a : Option Addr} {L : List (BitVec 8)} {row : Option Nat} (C : BytesAt w a L) (hg : w.grownBy w' row) (hn : ∀ ad, a = some ad → some ad.block ≠ row) : BytesAt w' a L := fun k hk => by
  obtain ⟨g, o, e, hc⟩ := C k hk
  exact ⟨g, o, e, hg.cell hc (hn ⟨g, o, none⟩ e)⟩
set_option maxHeartbeats 1000000 in
/-- A copy of bytes. -/
theorem copy_any {w : World} {a : Option Addr} {cap : Nat} {R : List (BitVec 8)} (C : BytesAt w a R) (hr : R.length ≤ 140737488355328) (hz : a = none → cap = 0) :
    Calls Tryd.prog 20 #[.slice a R.length cap] w fun e w' => ∃ v, e = .returned v ∧ w'.ownsRow w.heap.size 5 1 v R.length (bcells R) ∧ Below w.heap.size w w' := by
  have HC := hid C
  have HR := hid hr
  have HZ := hid hz
  clear C hr hz
  go_enter Tryd.func20, Tryd.ntmps20
  go_wp2_with (at_builtin; refine wpAppendA (.tmp 4) (.tmp 5) rfl rfl (base := w.heap.size) (k := 0) (v := .slice none 0 0) (old := []) rfl ⟨rfl, .inl ⟨rfl, rfl⟩⟩ (Nat.le_refl _) rfl HZ.out rfl HC.out (by have := HR.out; omega) ?_; intro w1 v1 ho1 hg1)
  go_ret
  have h := ho1.out
  rw [Nat.zero_add, List.nil_append] at h
  exact ⟨_, rfl, h, (Below.refl _ _).grown hg1.out.1 (Nat.le_refl _) (fun g e => by simp [Value.ownBlock] at e)⟩
theorem head_set0 {w : World} {b : Nat} {x y v : Value} (h : w.heap[b]? = some (.cells #[x, y] 67 (0, 0))) : (w.setCell ⟨b, 0, none⟩ v).heap[b]? = some (.cells #[v, y] 67 (0, 0)) ∧ w.grownBy (w.setCell ⟨b, 0, none⟩ v) (some b) := by
  refine ⟨?_, ⟨rfl, rfl, rfl, by simp, fun k _ hk => heap_setCell_other w ⟨b, 0, none⟩ k v (fun e => hk (by simp [e]))⟩⟩
  rw [heap_setCell_same w b 0 _ 67 v h]
  rfl
theorem head_set1 {w : World} {b : Nat} {x y v : Value} (h : w.heap[b]? = some (.cells #[x, y] 67 (0, 0))) : (w.setCell ⟨b, 1, none⟩ v).heap[b]? = some (.cells #[x, v] 67 (0, 0)) ∧ w.grownBy (w.setCell ⟨b, 1, none⟩ v) (some b) := by
  refine ⟨?_, ⟨rfl, rfl, rfl, by simp, fun k _ hk => heap_setCell_other w ⟨b, 1, none⟩ k v (fun e => hk (by simp [e]))⟩⟩
  rw [heap_setCell_same w b 1 _ 67 v h]
  rfl
theorem lt_of_own {w : World} {B : Nat} {e : TypeId} {size n g : Nat} {v : Value} {xs : List Value} (h : w.ownsRow B e size v n xs) (hv : v.ownBlock = some g) : g < w.heap.size := by
  obtain ⟨cs, hc⟩ := row_type h hv
  exact (Array.getElem?_eq_some_iff.1 hc).1
/-- The second half of Keep, world by world. -/
theorem KeepS.grown {W0 B b : Nat} {wv u : Value} {R : List (BitVec 8)} {Y : List Value} {w w' : World} (hg : w.grownBy w' wv.ownBlock) (hlt : ∀ g, wv.ownBlock = some g → g < W0) (i : Nat) (v : Value) (hi : i ≠ 8) (h : KeepS W0 B b wv u R Y i v w) : KeepS W0 B b wv u R Y i v w' := by
  unfold KeepS at h ⊢
  split at h <;> (try exact h)
  · exact own_kept h hg (fun g e => by intro e'; have := own_ge h e; have := hlt g e'; omega)
  · obtain ⟨g, v7, h1, h2, h3, h4⟩ := h
    exact ⟨g, v7, h1, h2, hg.cell h3 (fun e => by have := hlt g e.symm; omega), own_kept h4 hg (fun g e => by intro e'; have := own_ge h4 e; have := hlt g e'; omega)⟩
  · exact absurd rfl hi
theorem own_mono {w : World} {base base' : Nat} {e : TypeId} {size : Nat} {v : Value} {n : Nat} {xs : List Value} (h : w.ownsRow base e size v n xs) (hb : base' ≤ base) : w.ownsRow base' e size v n xs := by
  refine ⟨h.1, h.2.imp id ?_⟩
  rintro ⟨g, cap, cur, h1, h2, h3⟩
  exact ⟨g, cap, cur, h1, Nat.le_trans hb h2, h3⟩
theorem wp_act {Q : Exit → Act → World → Prop} {a : Act} {w : World} {code : Code} (h : ∀ a0, Hid (a0 = a) → code.wp Tryd.prog Q a0 w) : code.wp Tryd.prog Q a w := h a rfl

set_option maxHeartbeats 2000000 in
theorem keep_any {B : Nat} {w : World} {b : Nat} {lv wv : Value} {X Y : List Value} {a : Option Addr} {cap : Nat} {R : List (BitVec 8)} (H : Book B w b lv wv X Y) (hB : B ≤ w.heap.size) (C : BytesAt w a R) (hsep : ∀ ad, a = some ad → ad.block ≠ b ∧ some ad.block ≠ lv.ownBlock ∧ some ad.block ≠ wv.ownBlock)
    (hx : (X.length + 1) * 24 ≤ 140737488355328) (hy : (Y.length + 1) * 24 ≤ 140737488355328) (hr : R.length ≤ 140737488355328) (hz : a = none → cap = 0) :
    Calls Tryd.prog 46 #[.pointer (some ⟨b, 0, none⟩), .slice a R.length cap] w fun e w' => e = .returned (.tuple #[]) ∧ ∃ lv' wv' u', Book B w' b lv' wv' (X ++ [.slice a R.length cap]) (Y ++ [u']) ∧ w'.ownsRow w.heap.size 5 1 u' R.length (bcells R) ∧ Kept w w' b lv wv ∧
      (lv'.ownBlock = lv.ownBlock ∨ ∃ g, lv'.ownBlock = some g ∧ w.heap.size ≤ g) ∧ (wv'.ownBlock = wv.ownBlock ∨ ∃ g, wv'.ownBlock = some g ∧ w.heap.size ≤ g) := by
  obtain ⟨i0, hi, hz0, hz1, hz2⟩ := info25
  obtain ⟨al, cl, rfl⟩ := row_slice H.l
  have hb0 : w.cell? ⟨b, 0, none⟩ = some (.slice al X.length cl) := by rw [cell_of_row w b _ _ _ _ H.head]; rfl
  have HH := hid H
  have HC := hid C
  have HSEP := hid hsep
  have HHB := hid hB
  have HXX := hid hx
  have HYY := hid hy
  have HRR := hid hr
  have HZR := hid hz
  clear H C hsep
  obtain ⟨u, hu⟩ : ∃ u, u = Value.slice a R.length cap := ⟨_, rfl⟩
  go_enter Tryd.func46, Tryd.ntmps46
  go_upto_region 1 with (at_builtin; refine wpList_append_own_at _ rfl _ _ 44 rfl B 30 i0 (.slice none 0 0) 1 24 Tryd.underlying44 hi hz0 hz1 hz2 rfl (by decide) (.slice al X.length cl) X.length X rfl (World.ownsRow.alloc HH.out.l _) ⟨w.heap.size, 0, none⟩ 1 1 [.slice a R.length cap] rfl rfl (box_range w 30 [.slice a R.length cap]) (by simp [Value.oneCell']) (by unfold maxLen; omega) HXX.out (by simp; omega) ?_; intro v1 w1 ho1 hg1 _ hat1; have HO1 := hid ho1; have HG1 := hid hg1; have HA1 := hid hat1; obtain ⟨a1, c1, rfl⟩ := row_slice ho1; have hd1 : w1.heap[b]? = some (.cells #[.slice al X.length cl, wv] 67 (0, 0)) := ((hg1.block b (by have := (Array.getElem?_eq_some_iff.1 HH.out.head).1; simp; omega) (fun e => HH.out.apart.1 e.symm)).trans ((below_box w _).block b (Array.getElem?_eq_some_iff.1 HH.out.head).1)).trans HH.out.head; have hc1 : w1.cell? ⟨b, 0, none⟩ = some (.slice al X.length cl) := (by rw [cell_of_row w1 b _ _ _ _ hd1]; rfl); have hf1 := frozen_of_row w1 b 0 _ 67 hd1; have HD1 := hid hd1; clear ho1 hg1 hat1 hd1)
  obtain ⟨hs1, hs2⟩ := head_set0 (v := .slice a1 (X.length + 1) c1) HD1.out
  have hbl := (Array.getElem?_eq_some_iff.1 HH.out.head).1
  have HBK : Hid (Book B (w1.setCell ⟨b, 0, none⟩ (.slice a1 (X.length + 1) c1)) b (.slice a1 (X.length + 1) c1) wv (X ++ [.slice a R.length cap]) Y) := by
    have hwv1 : w1.ownsRow B 30 1 wv Y.length Y := own_kept (own_below HH.out.s (below_box w _)) HG1.out (fun g e e' => HH.out.ne g e' e)
    refine ⟨hs1, ?_, own_kept hwv1 hs2 (fun g e e' => ?_), fun g e => ?_⟩
    · rw [List.length_append]
      refine own_kept HO1.out hs2 (fun g e e' => ?_)
      simp only [Option.some.injEq] at e'
      subst e'
      obtain ⟨cs, hc⟩ := row_type HO1.out e
      rw [HD1.out] at hc
      simp at hc
    · simp only [Option.some.injEq] at e'
      subst e'
      exact HH.out.apart.2 e
    · intro e'
      rcases HA1.out with h | h
      · exact HH.out.ne g (h ▸ e) e'
      · have := lt_of_own HH.out.s e'
        rw [e] at h
        simp at h
        omega
  have HKW : Hid (Kept w (w1.setCell ⟨b, 0, none⟩ (.slice a1 (X.length + 1) c1)) b (.slice al X.length cl) wv) := by
    have h1 := (below_box w (.cells #[.slice a R.length cap] 30))
    refine ⟨hs2.os.trans (HG1.out.os.trans h1.os), hs2.tape.trans (HG1.out.tape.trans h1.tape), hs2.output.trans (HG1.out.output.trans h1.output), Nat.le_trans h1.size (Nat.le_trans HG1.out.size hs2.size), fun k hk kb kl _ => ?_⟩
    have k1 : k < (w.alloc (.cells #[.slice a R.length cap] 30)).heap.size := Nat.lt_of_lt_of_le hk h1.size
    exact (hs2.block k (Nat.lt_of_lt_of_le k1 HG1.out.size) (by simpa using kb)).trans ((HG1.out.block k k1 kl).trans (h1.block k hk))
  have HCW : Hid (BytesAt (w1.setCell ⟨b, 0, none⟩ (.slice a1 (X.length + 1) c1)) a R) :=
    cells_far (cells_far (HC.out.kept (below_box w _)) HG1.out (fun ad e => (HSEP.out ad e).2.1)) hs2 (fun ad e => by simpa using (HSEP.out ad e).1)
  have HLB : Hid ((Value.slice a1 (X.length + 1) c1).ownBlock = (Value.slice al X.length cl).ownBlock ∨ ∃ g, (Value.slice a1 (X.length + 1) c1).ownBlock = some g ∧ w.heap.size ≤ g) := by
    rcases HA1.out with h | h
    · exact .inl h
    · exact .inr ⟨_, h, by simp⟩
  clear hs1 hs2 HD1 HO1 HG1 HA1 hc1 hf1 hb0
  generalize w1.setCell ⟨b, 0, none⟩ (.slice a1 (X.length + 1) c1) = w2 at *
  obtain ⟨aw, cw, rfl⟩ := row_slice HBK.out.s
  refine wp_act fun F HF => ?_
  have F0 : Hid (F.tmps[0]? = some (.pointer (some ⟨b, 0, none⟩))) := by show _ = _; rw [HF.out]; rfl
  have F1 : Hid (F.tmps[1]? = some (.slice a R.length cap)) := by show _ = _; rw [HF.out]; rfl
  have FS : Hid (F.tmps.size = 25) := by show _ = _; rw [HF.out]; rfl
  have FD : Hid (F.defers = []) := by show _ = _; rw [HF.out]
  clear HF
  have hgn : ∀ {x y : World}, x.grownBy y none → x.grownBy y (Value.slice aw Y.length cw).ownBlock := fun h => ⟨h.os, h.tape, h.output, h.size, fun k hk _ => h.block k hk (by simp)⟩
  have hcell1 : ∀ wx : World, w2.grownBy wx (Value.slice aw Y.length cw).ownBlock → wx.cell? ⟨b, 1, none⟩ = some (.slice aw Y.length cw) := fun wx hg => by
    have h1 := (hg.block b (Array.getElem?_eq_some_iff.1 HBK.out.head).1 (fun e => HBK.out.apart.2 e.symm)).trans HBK.out.head
    rw [cell_of_row wx b _ _ _ _ h1]
    rfl
  have hlt : ∀ g, (Value.slice aw Y.length cw).ownBlock = some g → g < w2.heap.size := fun g e => lt_of_own HBK.out.s e
  refine wp_region_any (by kernel_rfl) ?_
  refine wpAny_last 11 rfl (by decide +kernel) (by decide +kernel) (fun l wx => w2.grownBy wx (Value.slice aw Y.length cw).ownBlock ∧ (l[8]? = some false → Below w2.heap.size w2 wx)) (KeepS w2.heap.size B b (.slice aw Y.length cw) (.slice a R.length cap) R Y) ⟨⟨rfl, rfl, rfl, Nat.le_refl _, fun _ _ _ => rfl⟩, fun _ => below_drawn (Below.refl _ _) _⟩ ?step ?last
  case last =>
    intro l af wx h hall
    obtain ⟨v11, hv11, s11⟩ := h.new 10 _ 24 (hall 10 (by decide)) rfl rfl
    obtain rfl : v11 = .pointer (some ⟨b, 1, none⟩) := s11
    obtain ⟨v9, hv9, s9⟩ := h.new 8 _ 22 (hall 8 (by decide)) rfl rfl
    obtain ⟨v7, ho7, ho9, hat9⟩ := s9
    obtain ⟨a9, c9, rfl⟩ := row_slice ho9
    have hd := (h.bel.1.block b (Array.getElem?_eq_some_iff.1 HBK.out.head).1 (fun e => HBK.out.apart.2 e.symm)).trans HBK.out.head
    obtain ⟨t1, t2⟩ := head_set1 (v := .slice a9 (Y.length + 1) c9) hd
    have hl2 : wx.ownsRow B 30 1 (Value.slice a1 (X.length + 1) c1) (X ++ [Value.slice a R.length cap]).length (X ++ [Value.slice a R.length cap]) := own_kept HBK.out.l h.bel.1 (fun g e e' => HBK.out.ne g e e')
    have hbb : ∀ {B' e size n v xs}, wx.ownsRow B' e size v n xs → e ≠ 67 → ∀ g, v.ownBlock = some g → some b ≠ some g := fun ho he g e e' => by
      simp only [Option.some.injEq] at e'
      subst e'
      obtain ⟨cs, hc⟩ := row_type ho e
      rw [hd] at hc
      simp at hc
      exact he hc.2.symm
    have hwb : w2.heap.size ≥ w.heap.size := HKW.out.size
    refine wpOp_of rfl rfl ?_
    refine step_store33 rfl (eval_tmp hv11) (eval_tmp hv9) (hcell1 wx h.bel.1) (frozen_of_row wx b 1 _ 67 hd) ?_
    refine bodyPost_end (results_none Tryd.results46 _ _ _) (h.defers.trans FD.out) ?_
    refine ⟨rfl, _, _, v7, ⟨t1, own_kept hl2 t2 (hbb hl2 (by decide)), ?_, ?_⟩, own_mono (own_kept ho7 t2 (hbb ho7 (by decide))) hwb, ?_, HLB.out, ?_⟩
    · rw [List.length_append]
      exact own_kept ho9 t2 (hbb ho9 (by decide))
    · intro g e e'
      rcases hat9 with h9 | ⟨g9, h9, h9'⟩
      · exact HBK.out.ne g e (h9 ▸ e')
      · have := lt_of_own HBK.out.l e
        rw [e'] at h9
        simp only [Option.some.injEq] at h9
        omega
    · have k := HKW.out
      have g1 := h.bel.1
      refine ⟨t2.os.trans (g1.os.trans k.os), t2.tape.trans (g1.tape.trans k.tape), t2.output.trans (g1.output.trans k.output), Nat.le_trans k.size (Nat.le_trans g1.size t2.size), fun j hj jb jl jw => ?_⟩
      have j2 := Nat.lt_of_lt_of_le hj k.size
      exact (t2.block j (Nat.lt_of_lt_of_le j2 g1.size) (by simpa using jb)).trans ((g1.block j j2 jw).trans (k.block j hj jb jl jw))
    · rcases hat9 with h9 | ⟨g9, h9, h9'⟩
      · exact .inl h9
      · exact .inr ⟨g9, h9, by omega⟩
  case step =>
    intro l af wx i h hi11 hf hm
    rcases (show i = 0 ∨ i = 1 ∨ i = 2 ∨ i = 3 ∨ i = 4 ∨ i = 5 ∨ i = 6 ∨ i = 7 ∨ i = 8 ∨ i = 9 ∨ i = 10 by omega) with rfl | rfl | rfl | rfl | rfl | rfl | rfl | rfl | rfl | rfl | rfl
    · -- 0
      refine wpOp_of rfl rfl ?_
      refine step_move rfl (h.oldv (t := 0) (by decide +kernel) F0.out) ?_
      exact h.step rfl rfl (by rw [FS.out]; decide) (by decide +kernel) rfl ⟨h.bel.1, fun e => h.bel.2 (by rwa [List.getElem?_set_ne (by decide)] at e)⟩ (fun _ _ _ q => q)
    · -- 1
      refine wpOp_of rfl rfl ?_
      refine step_move rfl (h.oldv (t := 0) (by decide +kernel) F0.out) ?_
      exact h.step rfl rfl (by rw [FS.out]; decide) (by decide +kernel) rfl ⟨h.bel.1, fun e => h.bel.2 (by rwa [List.getElem?_set_ne (by decide)] at e)⟩ (fun _ _ _ q => q)
    · -- 2
      refine wpOp_of rfl rfl ?_
      obtain ⟨v0, e0, s0⟩ := h.val hm rfl (j := 1) rfl rfl (by decide +kernel)
      obtain rfl : v0 = .pointer (some ⟨b, 0, none⟩) := s0
      refine step_nilc rfl e0 ?_
      exact h.step rfl rfl (by rw [FS.out]; decide) (by decide +kernel) rfl ⟨h.bel.1, fun e => h.bel.2 (by rwa [List.getElem?_set_ne (by decide)] at e)⟩ (fun _ _ _ q => q)
    · -- 3
      refine wpOp_of rfl rfl ?_
      obtain ⟨v0, e0, s0⟩ := h.val hm rfl (j := 2) rfl rfl (by decide +kernel)
      obtain rfl : v0 = .pointer (some ⟨b, 0, none⟩) := s0
      refine step_f351 rfl e0 ?_
      exact h.step rfl rfl (by rw [FS.out]; decide) (by decide +kernel) rfl ⟨h.bel.1, fun e => h.bel.2 (by rwa [List.getElem?_set_ne (by decide)] at e)⟩ (fun _ _ _ q => q)
    · -- 4
      refine wpOp_of rfl rfl ?_
      obtain ⟨v0, e0, s0⟩ := h.val hm rfl (j := 3) rfl rfl (by decide +kernel)
      obtain rfl : v0 = .pointer (some ⟨b, 1, none⟩) := s0
      refine step_load33 rfl e0 (hcell1 _ h.bel.1) ?_
      exact h.step rfl rfl (by rw [FS.out]; decide) (by decide +kernel) rfl ⟨h.bel.1, fun e => h.bel.2 (by rwa [List.getElem?_set_ne (by decide)] at e)⟩ (fun _ _ _ q => q)
    · -- 5
      refine wpOp_of rfl rfl ?_
      refine step_move rfl (h.oldv (t := 1) (by decide +kernel) F1.out) ?_
      exact h.step rfl rfl (by rw [FS.out]; decide) (by decide +kernel) rfl ⟨h.bel.1, fun e => h.bel.2 (by rwa [List.getElem?_set_ne (by decide)] at e)⟩ (fun _ _ _ q => q)
    · -- 6
      refine wpOp_of rfl rfl ?_
      obtain ⟨v0, e0, s0⟩ := h.val hm rfl (j := 5) rfl rfl (by decide +kernel)
      obtain rfl : v0 = .slice a R.length cap := s0
      refine step_copy (G := fun r w' => w'.ownsRow wx.heap.size 5 1 r R.length (bcells R) ∧ Below wx.heap.size wx w') rfl e0 (copy_any (cells_far HCW.out h.bel.1 (fun ad e => (HSEP.out ad e).2.2)) HRR.out HZR.out) ?_
      rintro r w' ⟨ho', hb'⟩
      exact h.step rfl rfl (by rw [FS.out]; decide) (by decide +kernel) (own_mono ho' h.bel.1.size) ⟨h.bel.1.trans (hgn (below_grown hb')), fun e => (h.bel.2 (by rwa [List.getElem?_set_ne (by decide)] at e)).trans (hb'.mono h.bel.1.size)⟩ (fun j v _ q => KeepS.kept hb' j v q)
    · -- 7
      refine wpOp_of rfl rfl ?_
      obtain ⟨v0, e0, s0⟩ := h.val hm rfl (j := 6) rfl rfl (by decide +kernel)
      have s0 : wx.ownsRow w2.heap.size 5 1 v0 R.length (bcells R) := s0
      obtain ⟨a7, c7, rfl⟩ := row_slice s0
      have hb' := below_box wx (.cells #[.slice a7 R.length c7] 30)
      refine step_build33 rfl e0 ?_
      exact h.step rfl rfl (by rw [FS.out]; decide) (by decide +kernel) ⟨wx.heap.size, .slice a7 R.length c7, rfl, h.bel.1.size, box_cell wx 30 _ 0 _ rfl, own_below s0 hb'⟩ ⟨h.bel.1.trans (hgn (below_grown hb')), fun e => (h.bel.2 (by rwa [List.getElem?_set_ne (by decide)] at e)).trans (hb'.mono h.bel.1.size)⟩ (fun j v _ q => KeepS.kept hb' j v q)
    · -- 8
      refine wpOp_of rfl rfl ?_
      obtain ⟨v0, e0, s0⟩ := h.val hm rfl (j := 4) rfl rfl (by decide +kernel)
      obtain rfl : v0 = .slice aw Y.length cw := s0
      obtain ⟨v1, e1, s1⟩ := h.val hm rfl (j := 7) rfl rfl (by decide +kernel)
      obtain ⟨g8, v7, rfl, hg8, hc8, ho8⟩ := s1
      have hY := own_below HBK.out.s (h.bel.2 hf)
      obtain ⟨v', w', hr', ho', hg', _, hat'⟩ := run_append_own_at (P := Tryd.prog) wx B 44 44 30 i0 (.slice none 0 0) 1 24 Tryd.underlying44 hi hz0 hz1 hz2 rfl (by decide) (.slice aw Y.length cw) Y.length Y hY ⟨g8, 0, none⟩ 1 1 [v7] rfl (fun j u hj => by
        match j, hj with
        | 0, hj => simp at hj; subst hj; rw [Addr.add_lit]; exact hc8) (by obtain ⟨a7, c7, rfl⟩ := row_slice ho8; simp [Value.oneCell']) (by unfold maxLen; omega) HYY.out (by have := h.bel.1.size; have := HKW.out.size; omega)
      refine step_app rfl e0 e1 hr' ?_
      exact h.step rfl rfl (by rw [FS.out]; decide) (by decide +kernel) ⟨v7, own_kept ho8 hg' (fun g e e' => by have := own_ge ho8 e; have := hlt g e'; omega), ho', hat'.imp id (fun e => ⟨_, e, h.bel.1.size⟩)⟩ ⟨h.bel.1.trans hg', fun e => by rw [List.getElem?_set_self (by have := (List.getElem?_eq_some_iff.1 hf).1; exact this)] at e; cases e⟩ (fun j v hj q => KeepS.grown hg' hlt j v hj q)
    · -- 9
      refine wpOp_of rfl rfl ?_
      obtain ⟨v0, e0, s0⟩ := h.val hm rfl (j := 0) rfl rfl (by decide +kernel)
      obtain rfl : v0 = .pointer (some ⟨b, 0, none⟩) := s0
      refine step_nilc rfl e0 ?_
      exact h.step rfl rfl (by rw [FS.out]; decide) (by decide +kernel) rfl ⟨h.bel.1, fun e => h.bel.2 (by rwa [List.getElem?_set_ne (by decide)] at e)⟩ (fun _ _ _ q => q)
    · -- 10
      refine wpOp_of rfl rfl ?_
      obtain ⟨v0, e0, s0⟩ := h.val hm rfl (j := 9) rfl rfl (by decide +kernel)
      obtain rfl : v0 = .pointer (some ⟨b, 0, none⟩) := s0
      refine step_f351 rfl e0 ?_
      exact h.step rfl rfl (by rw [FS.out]; decide) (by decide +kernel) rfl ⟨h.bel.1, fun e => h.bel.2 (by rwa [List.getElem?_set_ne (by decide)] at e)⟩ (fun _ _ _ q => q)
end Go.Proofs.YtfhjiggaacgncaaDoor.Tx
