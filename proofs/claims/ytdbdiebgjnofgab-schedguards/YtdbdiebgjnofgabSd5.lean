import Derived.Test.YtdbdiebgjnofgabSd4
namespace Go.Proofs.Ytdbdiebgjnofgab
open Go.RowKit Go.Maps Go.Sort
set_option maxRecDepth 100000

set_option maxHeartbeats 1000000 in
/-- Left of a scheduler, by its kind's. -/
theorem left_by {w : World} {s T f : Nat} {r : Value} {x : Int} (hs : w.cell? ⟨s, 0, none⟩ = some (.iface T r)) (hm : ∀ w, (method 258 T r "Left").run Try.prog w = .ok (f, r) w) (eg : ∀ args w, (callFunc f args).run Try.prog w = .ok (.enter f args) w)
    (hn : Calls Try.prog f #[r] w fun e w' => e = .returned (.int .i64 x) ∧ Below w.heap.size w w') : Calls Try.prog 16 #[.pointer (some ⟨s, 0, none⟩)] w fun e w' => e = .returned (.int .i64 x) ∧ Below w.heap.size w w' := by
  have HN := hid hn
  clear hn
  go_enter Try.func16, Try.ntmps16
  go_wp2_with (go_at_fn f; refine HN.out.mono ?_; rintro e w' ⟨rfl, hb⟩; have HB := hid hb; clear hb)
  go_ret
  exact ⟨rfl, HB.out⟩
theorem Fr.setCell' {S : Nat → Prop} {w w' : World} {B : Nat} (h : Fr S w w') (hB : w.heap.size ≤ B) (o : Nat) (v : Value) : Fr S w (w'.setCell ⟨B, o, none⟩ v) :=
  h.trans (Fr.of_below (S := fun _ => False) ((Below.refl w'.heap.size w').mono (Nat.le_refl _)) (Nat.le_refl _)) (fun _ e => e.elim) |>.trans (T := fun k => k = B) ⟨rfl, rfl, rfl, by simp [World.setCell], fun k _ hk => Below.heap_setCell w' ⟨B, o, none⟩ v k hk⟩ (fun k e => .inr (by rw [e]; exact hB))
theorem fr0 {S : Nat → Prop} {w w' : World} (h : Below w.heap.size w w') : Fr S w w' := Fr.of_below h (Nat.le_refl _)
theorem St.fr {w : World} {x y : Nat} {cs : List Value} {a : Option Addr} {w1 w2 : World} {S : Nat → Prop} (h : St w x y cs a [] w1) (hf : Fr S w1 w2) (hS : ∀ k, S k → k < w.heap.size) (hx : w.heap.size ≤ x) (hy : w.heap.size ≤ y) : Row w2 x cs 28 ∧ Row w2 y pk0 32 :=
  ⟨hf.row h.v (fun e => by have := hS _ e; omega), hf.row h.p (fun e => by have := hS _ e; omega)⟩
set_option maxHeartbeats 2000000 in
/-- Next of a scheduler, by its kind's. -/
theorem next_by {w : World} {s : Nat} {V : Vw} {T f : Nat} {r : Value} {x : Option Pk} {S : Nat → Prop} {R : World → Prop} (hs : w.cell? ⟨s, 0, none⟩ = some (.iface T r)) (hm : ∀ w, (method 258 T r "Next").run Try.prog w = .ok (f, r) w)
    (eg : ∀ args w, (callFunc f args).run Try.prog w = .ok (.enter f args) w) (hS : ∀ k, S k → k < w.heap.size) (hRs : ∀ w1 w2 : World, (∀ k, k < w.heap.size → w2.heap[k]? = w1.heap[k]?) → R w1 → R w2) (hsS : ¬ S s)
    (hn : ∀ w', Below w.heap.size w w' → Calls Try.prog f #[r, V.val] w' fun e w'' => e = .returned (pkv x) ∧ Fr S w' w'' ∧ R w'') :
    Calls Try.prog 7 #[.pointer (some ⟨s, 0, none⟩), V.val] w fun e w' => e = .returned (pkv x) ∧ Fr S w w' ∧ R w' := by
  obtain ⟨a, cap, L, has, want, edge, mss⟩ := V
  simp only [Vw.val, Vw.cells] at hn ⊢
  have HN := hid hn
  have HRS := hid hRs
  have HSS := hid hS
  have HSN := hid hsS
  have hsl := World.block_lt_of_cell? w _ hs
  have ne0 : ¬ s = w.heap.size := by simp at hsl; omega
  have ne1 : ¬ s = w.heap.size + 1 := by simp at hsl; omega
  clear hn hRs hS hsS
  go_enter Try.func7, Try.ntmps7
  go_upto_region 3 with fail
  refine wp_world fun W HW => ?_
  obtain ⟨vx, hvx⟩ : ∃ x, x = w.heap.size := ⟨_, rfl⟩
  obtain ⟨y, hy⟩ : ∃ y, y = w.heap.size + 1 := ⟨_, rfl⟩
  have HY : Hid (w.heap.size ≤ y) := by show _ ≤ _; omega
  have HX : Hid (w.heap.size ≤ vx) := by show _ ≤ _; omega
  have HS : Hid (St w vx y [.slice a L.length cap, .bool has, .int .u64 want.off, .int .i64 want.len, .bool want.fin, .slice want.on.a want.on.n want.on.c, .bool want.held, .int .u64 edge, .int .i64 mss] a [] W) := by
    have hb : Below w.heap.size w W := by rw [HW.out]; exact ((Below.refl _ _).alloc (Nat.le_refl _) _).alloc (by simp) _
    refine ⟨hb, ?_, ?_, fun k hk => by simp at hk⟩
    · rw [HW.out, hvx]; exact (Row.new' _ _ _ _ _ (by simp) rfl).alloc _
    · rw [HW.out, hy]; exact Row.new' _ _ _ _ _ (by simp) rfl
  have s0 := cell_kept HS.out.b hs
  rw [← hy, ← hvx]
  have n1 : ¬ vx = y := by omega
  have n2 : ¬ y = vx := by omega
  have n3 : ¬ s = y := by omega
  have n4 : ¬ y = s := by omega
  clear HW hvx hy hs ne0 ne1 hsl
  obtain ⟨b0, b1, b2, b3, b4, b5, b6, b7, b8⟩ := HS.out.cells
  replace HS := hid (HS.out.drawn (W.drawn + 1))
  cases x
  all_goals
    simp only [pkv] at HN
    go_region_held3 (fun w' => w'.cell? ⟨s, 0, none⟩ = some (.iface T r) ∧ w'.cell? ⟨vx, 0, none⟩ = some (.slice a L.length cap) ∧ w'.cell? ⟨vx, 1, none⟩ = some (.bool has) ∧ w'.cell? ⟨vx, 2, none⟩ = some (.int .u64 want.off) ∧ w'.cell? ⟨vx, 3, none⟩ = some (.int .i64 want.len) ∧ w'.cell? ⟨vx, 4, none⟩ = some (.bool want.fin) ∧ w'.cell? ⟨vx, 5, none⟩ = some (.slice want.on.a want.on.n want.on.c) ∧ w'.cell? ⟨vx, 6, none⟩ = some (.bool want.held) ∧ w'.cell? ⟨vx, 7, none⟩ = some (.int .u64 edge) ∧ w'.cell? ⟨vx, 8, none⟩ = some (.int .i64 mss)) (go_keep)
      (first
        | (go_at_fn f; refine (HN.out _ HS.out.b).mono ?_; rintro e w2 ⟨rfl, hf, hr⟩; obtain ⟨rv, rp⟩ := HS.out.fr hf HSS.out HX.out HY.out; have HF := hid hf; have HR := hid hr; have HP := hid rp; clear b0 b1 b2 b3 b4 b5 b6 b7 b8; have s1 := hf.cell s0 HSN.out; clear s0; have b0 := rv.cell 0 _ rfl; have b1 := rv.cell 1 _ rfl; have b2 := rv.cell 2 _ rfl; have b3 := rv.cell 3 _ rfl; have b4 := rv.cell 4 _ rfl; have b5 := rv.cell 5 _ rfl; have b6 := rv.cell 6 _ rfl; have b7 := rv.cell 7 _ rfl; have b8 := rv.cell 8 _ rfl; have y0 := rp.cell 0 _ rfl; have y1 := rp.cell 1 _ rfl; have y2 := rp.cell 2 _ rfl; have z0 := rp.frozen 0; have z1 := rp.frozen 1; have z2 := rp.frozen 2; clear rv rp hf hr))
    go_wp2
    refine bodyPost_ret (Row.result2 (((HP.out.set 0 _).set 1 _).set 2 _) Try.results7 _ rfl _ Try.underlying32 rfl i36) rfl ⟨rfl, ?_, ?_⟩
    · exact ((((fr0 HS.out.b).trans HF.out (fun _ e => .inl e)).setCell' HY.out _ _).setCell' HY.out _ _).setCell' HY.out _ _
    · refine HRS.out _ _ (fun k hk => ?_) HR.out
      have hk' : k ≠ y := by have := HY.out; omega
      rw [Below.heap_setCell _ ⟨y, 2, none⟩ _ k hk', Below.heap_setCell _ ⟨y, 1, none⟩ _ k hk', Below.heap_setCell _ ⟨y, 0, none⟩ _ k hk']
end Go.Proofs.Ytdbdiebgjnofgab
