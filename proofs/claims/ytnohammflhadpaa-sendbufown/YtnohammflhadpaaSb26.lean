import Derived.Test.YtnohammflhadpaaSb25
import Derived.Laws.MakeOwn
namespace Go.Proofs.Ytnohammflhadpaa
open Go.RowKit Go.Maps Go.Sort
set_option maxRecDepth 100000

theorem info32 : ∃ i : TypeInfo, Try.prog.info? 32 = some i ∧ i.zero = some (.agg #[.int .u64 0, .int .i64 0, .bool false, .slice none 0 0, .bool false]) ∧ i.size = 5 ∧ i.bytes = 56 := by
  have h : (Try.prog.info? 32).map (fun i => (i.zero, i.size, i.bytes)) = some (some (.agg #[.int .u64 0, .int .i64 0, .bool false, .slice none 0 0, .bool false]), 5, 56) := by kernel_rfl
  cases hi : Try.prog.info? 32 with
  | none => rw [hi] at h; simp at h
  | some i =>
    rw [hi] at h
    simp only [Option.map_some, Option.some.injEq, Prod.mk.injEq] at h
    exact ⟨i, rfl, h.1, h.2.1, h.2.2⟩
theorem own_ge {w : World} {base : Nat} {e : TypeId} {size : Nat} {v : Value} {n : Nat} {xs : List Value} (h : w.ownsRow base e size v n xs) {g : Nat} (hg : v.ownBlock = some g) : base ≤ g := by
  rcases h.2 with ⟨rfl, _⟩ | ⟨g', cap, cur, rfl, h1, _⟩
  · simp [Value.ownBlock] at hg
  · simp [Value.ownBlock] at hg; omega
theorem own_below {w w' : World} {base : Nat} {e : TypeId} {size : Nat} {v : Value} {n : Nat} {xs : List Value} (h : w.ownsRow base e size v n xs) (hb : Below w.heap.size w w') : w'.ownsRow base e size v n xs := by
  refine ⟨h.1, h.2.imp id ?_⟩
  rintro ⟨g, cap, cur, h1, h2, h3, h4⟩
  exact ⟨g, cap, cur, h1, h2, (hb.block g (Array.getElem?_eq_some_iff.1 h3).1).trans h3, h4⟩
/-- Chunks as they are handed out. -/
structure ChX (L : List Ck) (X : List Value) : Prop where
  len : X.length = L.length * 5
  at_ : ∀ k (h : k < L.length), X[k * 5]? = some (.int .u64 L[k].off) ∧ X[k * 5 + 1]? = some (.int .i64 L[k].bs.length) ∧ X[k * 5 + 2]? = some (.bool L[k].fin) ∧ X[k * 5 + 4]? = some (.bool L[k].held)
theorem ChX.snoc {L : List Ck} {X : List Value} (h : ChX L X) (c : Ck) (s : Value) : ChX (L ++ [c]) (X ++ [.int .u64 c.off, .int .i64 c.bs.length, .bool c.fin, s, .bool c.held]) := by
  have hl := h.len
  refine ⟨by simp [hl]; omega, fun k hk => ?_⟩
  by_cases e : k < L.length
  · obtain ⟨h0, h1, h2, h4⟩ := h.at_ k e
    rw [List.getElem_append_left e]
    refine ⟨?_, ?_, ?_, ?_⟩ <;> rw [List.getElem?_append_left (by omega)] <;> assumption
  · have e' : k = L.length := by simp at hk; omega
    subst e'
    rw [List.getElem_concat_length rfl]
    refine ⟨?_, ?_, ?_, ?_⟩ <;> rw [List.getElem?_append_right (by omega)] <;> simp [hl]
theorem chx_nil : ChX [] [] := ⟨rfl, fun k h => by simp at h⟩
set_option maxHeartbeats 4000000 in
theorem chunks_any {w : World} {p : Nat} {F : Sb} {a : Option Addr} {cap : Nat} (h : SbR w p F a cap) :
    Calls Try.prog 19 #[.pointer (some ⟨p, 0, none⟩)] w fun e w' => ∃ v X, e = .returned v ∧ w'.ownsRow w.heap.size 32 5 v F.L.length X ∧ ChX F.L X ∧ Below w.heap.size w w' := by
  obtain ⟨i0, hi0, hz0, hz1, hz2⟩ := info32
  obtain ⟨N, hN⟩ : ∃ N, F.L.length = N := ⟨_, rfl⟩
  have c7 : w.cell? ⟨p, 7, none⟩ = some (.slice a N cap) := by rw [← hN]; exact h.row.cell 7 _ rfl
  have HA := hid h.ck
  have HN := hid hN
  have hnl : (N : Int) ≤ 65537 := by have := h.ok.nl; omega
  clear h hN
  obtain ⟨w1, hmk, ho1, hg1⟩ := run_make_own (P := Try.prog) w w.heap.size 38 32 i0 _ 5 Try.underlying38 hi0 hz0 hz1 .i64 .i64 N (by rw [hz2]; omega) (by unfold maxLen; omega) (Nat.le_refl _)
  have hb1 : Below w.heap.size w w1 := ⟨hg1.os, hg1.tape, hg1.output, hg1.size, fun k hk => hg1.block k hk (by simp)⟩
  have HO1 := hid ho1
  have HB1 := hid hb1
  have d7 := cell_kept hb1 c7
  clear ho1 hg1 hb1
  go_enter Try.func19, Try.ntmps19
  go_wp2_with fail
  clear hmk
  go_loopw [3, 16] (fun s3 s16 wr => ∃ (i : Nat) (X : List Value), i ≤ N ∧ s16 = .int .i64 i ∧ Hid (wr.ownsRow w.heap.size 32 5 s3 i X) ∧ Hid (ChX (F.L.take i) X) ∧ Hid (Below w.heap.size w wr)) (fun _ s _ => N - (intOf s).toNat)
  case atStart => exact ⟨0, [], Nat.zero_le _, rfl, HO1, hid chx_nil, HB1⟩
  case round =>
    obtain ⟨i, X, hi, rfl, HO, HX, HB⟩ := hrel
    by_cases hlt : i < N
    · have hii : (i : Int) < N := by omega
      have hil : i < F.L.length := by have := HN.out; omega
      obtain ⟨g, o, rfl, hC⟩ := HA.out.ckc hil
      have HS := hid (shown_any (hC.kept HB.out))
      have e7 := cell_kept HB.out c7
      clear hC
      have HXN : Hid (∀ s, ChX (F.L.take (i + 1)) (X ++ [.int .u64 F.L[i].off, .int .i64 F.L[i].bs.length, .bool F.L[i].fin, s, .bool F.L[i].held])) := fun s => by
        rw [List.take_succ_eq_append_getElem hil]
        exact HX.out.snoc _ s
      clear HX
      generalize F.L[i] = c at *
      go_wp2_with fail
      refine HS.out.mono ?_
      rintro e w2 ⟨s, rfl, hs, hb2⟩
      obtain ⟨sa, sc, rfl⟩ := ownI_shape hs
      have HB2 := hid (HB.out.trans (hb2.mono HB.out.size))
      have HO2 := hid (own_below HO.out hb2)
      clear hb2 HS hs
      generalize (onUp c.on 8).length = sn at *
      unfold ChV
      go_wp2_with (at_builtin; refine wpList_append_own_at _ rfl _ _ 38 rfl w.heap.size 32 i0 (.agg #[.int .u64 0, .int .i64 0, .bool false, .slice none 0 0, .bool false]) 5 56 Try.underlying38 hi0 hz0 hz1 hz2 rfl (by decide) _ _ _ rfl (World.ownsRow.alloc HO2.out _) ⟨w2.heap.size, 0, none⟩ 1 1 [.int .u64 c.off, .int .i64 c.bs.length, .bool c.fin, .slice sa sn sc, .bool c.held] rfl rfl (box_range w2 32 _) (by simp [Value.oneCell']) (by unfold maxLen; omega) (by omega) (by have := HB2.out.size; simp; omega) ?_; intro v5 w5 h5 g5 _ _; have H5 := hid h5; have HG5 := hid g5; clear h5 g5)
      have HB5 : Hid (Below w.heap.size w w5) := by
        have hb1 : Below w.heap.size w (w2.alloc (.cells #[.int .u64 c.off, .int .i64 c.bs.length, .bool c.fin, .slice sa sn sc, .bool c.held] 32)) := HB2.out.alloc HB2.out.size _
        have hf : Fr (fun x => w.heap.size ≤ x) (w2.alloc (.cells #[.int .u64 c.off, .int .i64 c.bs.length, .bool c.fin, .slice sa sn sc, .bool c.held] 32)) w5 := Fr.of_grown HG5.out (fun k hk => .inl (own_ge HO2.out hk))
        exact hb1.trans (hf.below (fun x hx => hx) hb1.size)
      go_roundw
      case rel => exact ⟨i + 1, _, hlt, by go_num, H5, hid (HXN.out (.slice sa sn sc)), HB5⟩
      case measure => simp [intOf]; omega
    · have hii : ¬ (i : Int) < N := by omega
      obtain rfl : i = N := by omega
      have hX := HX.out
      rw [← HN.out, List.take_length] at hX
      have HX2 := hid hX
      clear hX HX
      go_wp2_with fail
      go_ret
      exact ⟨_, rfl, X, by rw [HN.out]; exact HO.out, HX2.out, HB.out⟩
end Go.Proofs.Ytnohammflhadpaa
