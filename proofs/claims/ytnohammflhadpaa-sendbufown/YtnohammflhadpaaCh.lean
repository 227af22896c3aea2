import Derived.Test.YtnohammflhadpaaSb42
import Derived.Laws.MakeOwn
namespace Go.Proofs.Ytnohammflhadpaa
open Go.RowKit Go.Maps Go.Sort
set_option maxRecDepth 100000

/-- Chunks as they are handed out, with their lists of paths. -/
structure ChZ (w : World) (B : Nat) (L : List Ck) (X : List Value) : Prop where
  len : X.length = L.length * 5
  at_ : ∀ k (h : k < L.length), X[k * 5]? = some (.int .u64 L[k].off) ∧ X[k * 5 + 1]? = some (.int .i64 L[k].bs.length) ∧ X[k * 5 + 2]? = some (.bool L[k].fin) ∧ X[k * 5 + 4]? = some (.bool L[k].held) ∧ ∃ s, X[k * 5 + 3]? = some s ∧ OwnI w B s (onUp L[k].on 8)
  ap : ∀ i j u v x, i < j → X[i * 5 + 3]? = some u → X[j * 5 + 3]? = some v → u.ownBlock = some x → v.ownBlock ≠ some x
theorem ChZ.snoc {w : World} {B : Nat} {L : List Ck} {X : List Value} (h : ChZ w B L X) (c : Ck) {s : Value} (hs : OwnI w B s (onUp c.on 8)) (hf : ∀ k (_ : k < L.length) u x, X[k * 5 + 3]? = some u → u.ownBlock = some x → s.ownBlock ≠ some x) : ChZ w B (L ++ [c]) (X ++ [.int .u64 c.off, .int .i64 c.bs.length, .bool c.fin, s, .bool c.held]) := by
  have hl := h.len
  refine ⟨by simp [hl]; omega, fun k hk => ?_, fun i j u v x hij hu hv hx => ?_⟩
  rotate_left
  · have hj : j * 5 + 3 < (X ++ [Value.int .u64 c.off, .int .i64 c.bs.length, .bool c.fin, s, .bool c.held]).length := (List.getElem?_eq_some_iff.1 hv).1
    have hj' : j ≤ L.length := by simp [hl] at hj; omega
    rw [List.getElem?_append_left (by omega)] at hu
    by_cases e : j < L.length
    · rw [List.getElem?_append_left (by omega)] at hv
      exact h.ap i j u v x hij hu hv hx
    · have e' : j = L.length := by omega
      subst e'
      rw [List.getElem?_append_right (by omega), show L.length * 5 + 3 - X.length = 3 by omega] at hv
      simp only [List.getElem?_cons_succ, List.getElem?_cons_zero, Option.some.injEq] at hv
      subst hv
      exact hf i (by omega) u x hu hx
  by_cases e : k < L.length
  · obtain ⟨h0, h1, h2, h4, t, h3, ht⟩ := h.at_ k e
    rw [List.getElem_append_left e]
    refine ⟨?_, ?_, ?_, ?_, t, ?_, ht⟩ <;> rw [List.getElem?_append_left (by omega)] <;> assumption
  · have e' : k = L.length := by simp at hk; omega
    subst e'
    rw [List.getElem_concat_length rfl]
    refine ⟨?_, ?_, ?_, ?_, s, ?_, hs⟩ <;> rw [List.getElem?_append_right (by omega)] <;> simp [hl]
theorem chz_nil (w : World) (B : Nat) : ChZ w B [] [] := ⟨rfl, fun k h => by simp at h, fun i j u v x _ hu => by simp at hu⟩
theorem ChZ.kept {w w' : World} {B : Nat} {L : List Ck} {X : List Value} (h : ChZ w B L X) (hb : Below w.heap.size w w') : ChZ w' B L X :=
  ⟨h.len, fun k hk => by
    obtain ⟨h0, h1, h2, h4, s, h3, hs⟩ := h.at_ k hk
    exact ⟨h0, h1, h2, h4, s, h3, ownI_kept hs hb⟩, h.ap⟩
theorem ChZ.grown {w w' : World} {B C : Nat} {L : List Ck} {X : List Value} {v : Value} {n : Nat} {xs : List Value} (h : ChZ w B L X) (hg : w.grownBy w' v.ownBlock) (ho : w.ownsRow C 32 5 v n xs) : ChZ w' B L X :=
  ⟨h.len, fun k hk => by
    obtain ⟨h0, h1, h2, h4, s, h3, hs⟩ := h.at_ k hk
    refine ⟨h0, h1, h2, h4, s, h3, ?_⟩
    obtain ⟨e1, e2⟩ := hs
    refine ⟨e1, ?_⟩
    rcases e2 with e2 | ⟨g, cap, cur, rfl, k1, k2, k3⟩
    · exact .inl e2
    · refine .inr ⟨g, cap, cur, rfl, k1, (hg.block g (Array.getElem?_eq_some_iff.1 k2).1 (fun e => ?_)).trans k2, k3⟩
      rcases ho.2 with ⟨rfl, _⟩ | ⟨g', cap', cur', rfl, _, m2, _⟩
      · simp [Value.ownBlock] at e
      · simp only [Value.ownBlock, Option.some.injEq] at e
        subst e
        rw [m2] at k2
        simp at k2, h.ap⟩
set_option maxHeartbeats 4000000 in
theorem chunks_lists {w : World} {p : Nat} {F : Sb} {a : Option Addr} {cap : Nat} (h : SbR w p F a cap) :
    Calls Try.prog 19 #[.pointer (some ⟨p, 0, none⟩)] w fun e w' => ∃ v X, e = .returned v ∧ w'.ownsRow w.heap.size 32 5 v F.L.length X ∧ ChZ w' w.heap.size F.L X ∧ Below w.heap.size w w' := by
  obtain ⟨i0, hi0, hz0, hz1, hz2⟩ := info32
  obtain ⟨N, hN⟩ : ∃ N, F.L.length = N := ⟨_, rfl⟩
  have c7 : w.cell? ⟨p, 7, none⟩ = some (.slice a N cap) := by rw [← hN]; exact h.row.cell 7 _ rfl
  have HA := hid h.ck
  have HN := hid hN
  have hnl : (N : Int) ≤ 65537 := by have := h.ok.nl; omega
  clear h hN
  obtain ⟨w1, hmk, ho1, hg1⟩ := run_make_own (P := Try.prog) w w.heap.size 38 32 i0 _ 5 Try.underlying38 hi0 hz0 hz1 .i64 .i64 N (by rw [hz2]; omega) (by unfold maxLen; omega) (Nat.le_refl _)
  have hb1 : Below w.heap.size w w1 := ⟨hg1.os, hg1.tape, hg1.output, hg1.size, fun k hk => hg1.block k hk (by simp)⟩
  have HO1 := hid ho1
  have HB1 := hid hb1
  have d7 := cell_kept hb1 c7
  clear ho1 hg1 hb1
  go_enter Try.func19, Try.ntmps19
  go_wp2_with fail
  clear hmk
  go_loopw [3, 16] (fun s3 s16 wr => ∃ (i : Nat) (X : List Value), i ≤ N ∧ s16 = .int .i64 i ∧ Hid (wr.ownsRow w.heap.size 32 5 s3 i X) ∧ Hid (ChZ wr w.heap.size (F.L.take i) X) ∧ Hid (Below w.heap.size w wr)) (fun _ s _ => N - (intOf s).toNat)
  case atStart => exact ⟨0, [], Nat.zero_le _, rfl, HO1, hid (chz_nil _ _), HB1⟩
  case round =>
    obtain ⟨i, X, hi, rfl, HO, HX, HB⟩ := hrel
    by_cases hlt : i < N
    · have hii : (i : Int) < N := by omega
      have hil : i < F.L.length := by have := HN.out; omega
      obtain ⟨g, o, rfl, hC⟩ := HA.out.ckc hil
      have HS := hid (shown_any (hC.kept HB.out))
      have e7 := cell_kept HB.out c7
      clear hC
      have HTK := hid (List.take_succ_eq_append_getElem hil)
      generalize F.L[i] = c at *
      go_wp2_with fail
      refine HS.out.mono ?_
      rintro e w2 ⟨s, rfl, hs, hb2⟩
      obtain ⟨sa, sc, rfl⟩ := ownI_shape hs
      have HOI := hid (ownI_less hs HB.out.size)
      have HX2 := hid (HX.out.kept hb2)
      have HFR0 : Hid (∀ k (_ : k < (F.L.take i).length) u x, X[k * 5 + 3]? = some u → u.ownBlock = some x → (Value.slice sa (onUp c.on 8).length sc).ownBlock ≠ some x) := fun k hk u x hu hx e => by
        obtain ⟨_, _, _, _, u', hu', hou⟩ := HX.out.at_ k hk
        rw [hu'] at hu
        simp only [Option.some.injEq] at hu
        subst hu
        have h1 : x < wr.heap.size := by
          rcases hou.2 with ⟨e', _⟩ | ⟨g, cap', cur, e', _, hg, _⟩
          · rw [e'] at hx; simp [Value.ownBlock] at hx
          · rw [e'] at hx; simp only [Value.ownBlock, Option.some.injEq] at hx; subst hx; exact (Array.getElem?_eq_some_iff.1 hg).1
        have h2 := ownI_ge hs e
        omega
      have HB2 := hid (HB.out.trans (hb2.mono HB.out.size))
      have HO2 := hid (own_below HO.out hb2)
      clear hb2 HS hs
      obtain ⟨sn, hsn⟩ : ∃ n, (onUp c.on 8).length = n := ⟨_, rfl⟩
      rw [hsn] at HOI HFR0 ⊢
      have HFR := HFR0
      clear HFR0
      have HSN := hid hsn
      clear hsn HX
      unfold ChV
      go_wp2_with (at_builtin; refine wpList_append_own_at _ rfl _ _ 38 rfl w.heap.size 32 i0 (.agg #[.int .u64 0, .int .i64 0, .bool false, .slice none 0 0, .bool false]) 5 56 Try.underlying38 hi0 hz0 hz1 hz2 rfl (by decide) _ _ _ rfl (World.ownsRow.alloc HO2.out _) ⟨w2.heap.size, 0, none⟩ 1 1 [.int .u64 c.off, .int .i64 c.bs.length, .bool c.fin, .slice sa sn sc, .bool c.held] rfl rfl (box_range w2 32 _) (by simp [Value.oneCell']) (by unfold maxLen; omega) (by omega) (by have := HB2.out.size; simp; omega) ?_; intro v5 w5 h5 g5 _ _; have H5 := hid h5; have HG5 := hid g5; clear h5 g5)
      have HB5 : Hid (Below w.heap.size w w5) := by
        have hb1 : Below w.heap.size w (w2.alloc (.cells #[.int .u64 c.off, .int .i64 c.bs.length, .bool c.fin, .slice sa sn sc, .bool c.held] 32)) := HB2.out.alloc HB2.out.size _
        have hf : Fr (fun x => w.heap.size ≤ x) (w2.alloc (.cells #[.int .u64 c.off, .int .i64 c.bs.length, .bool c.fin, .slice sa sn sc, .bool c.held] 32)) w5 := Fr.of_grown HG5.out (fun k hk => .inl (own_ge HO2.out hk))
        exact hb1.trans (hf.below (fun x hx => hx) hb1.size)
      have HX5 : Hid (ChZ w5 w.heap.size (F.L.take (i + 1)) (X ++ [.int .u64 c.off, .int .i64 c.bs.length, .bool c.fin, .slice sa sn sc, .bool c.held])) := by
        have hba : Below w2.heap.size w2 (w2.alloc (.cells #[.int .u64 c.off, .int .i64 c.bs.length, .bool c.fin, .slice sa sn sc, .bool c.held] 32)) := (Below.refl _ _).alloc (Nat.le_refl _) _
        have h1 := (HX2.out.snoc c (s := .slice sa sn sc) HOI.out HFR.out).kept hba
        rw [HTK.out]
        exact h1.grown HG5.out (World.ownsRow.alloc HO2.out _)
      go_roundw
      case rel => exact ⟨i + 1, _, hlt, by go_num, H5, HX5, HB5⟩
      case measure => simp [intOf]; omega
    · have hii : ¬ (i : Int) < N := by omega
      obtain rfl : i = N := by omega
      have hX := HX.out
      rw [← HN.out, List.take_length] at hX
      have HX2 := hid hX
      clear hX HX
      go_wp2_with fail
      go_ret
      exact ⟨_, rfl, X, by rw [HN.out]; exact HO.out, HX2.out, HB.out⟩
end Go.Proofs.Ytnohammflhadpaa
