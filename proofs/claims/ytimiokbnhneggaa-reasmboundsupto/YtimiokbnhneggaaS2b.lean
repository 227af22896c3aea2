import Derived.Test.YtimiokbnhneggaaAlive
import Derived.Maps.AppendAt
import Derived.Deep.CutRange
namespace Go.Proofs.Ytimiokbnhneggaa
open Go.RowKit Go.Maps Go.Sort
set_option maxRecDepth 100000

/-- A piece's place and length, counted round a text of N bytes. -/
def cutF (x : Int) (N : Nat) : Nat := (IntKind.u64.wrap x % ((N : Int) + 1)).toNat
def cutL (x y : Int) (N : Nat) : Nat := (IntKind.u64.wrap y % ((N : Int) - cutF x N + 1)).toNat
theorem wrap_u64_nn (x : Int) : 0 ≤ IntKind.u64.wrap x ∧ IntKind.u64.wrap x ≤ 18446744073709551615 := by rw [IntKind.wrap_u64]; omega
theorem cutF_le (x : Int) (N : Nat) : cutF x N ≤ N ∧ (cutF x N : Int) = IntKind.u64.wrap x % ((N : Int) + 1) := by
  unfold cutF
  have h1 := Int.emod_nonneg (IntKind.u64.wrap x) (show ((N : Int) + 1) ≠ 0 by omega)
  have h2 := Int.emod_lt_of_pos (IntKind.u64.wrap x) (show 0 < ((N : Int) + 1) by omega)
  omega
theorem cutL_le (x y : Int) (N : Nat) : cutF x N + cutL x y N ≤ N ∧ (cutL x y N : Int) = IntKind.u64.wrap y % ((N : Int) - cutF x N + 1) := by
  have h0 := (cutF_le x N).1
  unfold cutL
  have h1 := Int.emod_nonneg (IntKind.u64.wrap y) (show ((N : Int) - cutF x N + 1) ≠ 0 by omega)
  have h2 := Int.emod_lt_of_pos (IntKind.u64.wrap y) (show 0 < ((N : Int) - cutF x N + 1) by omega)
  omega
set_option maxHeartbeats 2000000 in
theorem cut_any {w : World} {a : Option Addr} {cap : Nat} {s : List (BitVec 8)} (hB : BytesAt w a s) (N : Nat) (hN : s.length = N) (hc : N ≤ cap) (hcm : cap ≤ maxLen) (hN2 : N ≤ 140737488355328) (x y n : Int) (fi : Bool) :
    Calls Try.prog 10 #[.slice a N cap, .agg #[.int .i64 x, .int .i64 y, .bool fi, .int .i64 n]] w fun e w' => ∃ aj, e = .returned (.tuple #[.int .i64 (cutF x N), .slice aj (cutL x y N) (cap - cutF x N)]) ∧ BytesAt w' aj ((s.drop (cutF x N)).take (cutL x y N)) ∧ (∀ g o, aj = some ⟨g, o, none⟩ → ∃ o', a = some ⟨g, o', none⟩) ∧ Below w.heap.size w w' := by
  obtain ⟨f1, f2⟩ := cutF_le x N
  obtain ⟨l1, l2⟩ := cutL_le x y N
  have x0 := wrap_u64_nn x
  have y0 := wrap_u64_nn y
  have HB0 : Hid (∀ q, Below w.heap.size w ((w.alloc (.cells #[.int .i64 x, .int .i64 y, .bool fi, .int .i64 n] 31)).drewN q)) := fun q => below_drewN ((Below.refl _ _).alloc (Nat.le_refl _) _) q
  have hcc : (cap : Int) ≤ 9223372036854775807 := by unfold maxLen at hcm; omega
  have HL : Hid (∀ {α : Type} (l : List α), l.length = 0 → l = []) := fun l h => List.eq_nil_of_length_eq_zero h
  by_cases hz : N = 0
  · subst hz
    have e1 : cutF x 0 = 0 := by omega
    rw [e1] at l1 l2 ⊢
    have e2 : cutL x y 0 = 0 := by omega
    rw [e2]
    have hs : s = [] := List.eq_nil_of_length_eq_zero hN
    subst hs
    have g1 : IntKind.u64.wrap x % 1 = 0 := by omega
    have g2 : IntKind.u64.wrap y % 1 = 0 := by omega
    clear f1 f2 l1 l2 e1 e2 hB hN
    generalize IntKind.u64.wrap x = xx at *
    generalize IntKind.u64.wrap y = yy at *
    cases a with
    | none =>
      go_enter Try.func10, Try.ntmps10
      go_wp2
      go_quiet (fail)
      go_wp2
      go_ret2
      exact ⟨_, rfl, fun k hk => (by simp at hk), fun g o e => ⟨o, e⟩, HB0.out nq⟩
    | some ad =>
      go_enter Try.func10, Try.ntmps10
      go_wp2
      go_quiet (fail)
      go_wp2
      go_ret2
      exact ⟨_, rfl, fun k hk => (by simp at hk), fun g o e => ⟨o, e⟩, HB0.out nq⟩
  · obtain ⟨g, o, rfl, hx0⟩ := hB 0 (by omega)
    clear hx0
    have HBY : Hid (∀ q, BytesAt ((w.alloc (.cells #[.int .i64 x, .int .i64 y, .bool fi, .int .i64 n] 31)).drewN q) (some ⟨g, o + cutF x N, none⟩) ((s.drop (cutF x N)).take (cutL x y N))) := fun q k hk => by
      have hk' : k < cutL x y N := by simp at hk; omega
      obtain ⟨g', o', e, c⟩ := hB (cutF x N + k) (by omega)
      cases e
      refine ⟨g, o + cutF x N, rfl, ?_⟩
      have c2 := cell_kept (below_box w (.cells #[.int .i64 x, .int .i64 y, .bool fi, .int .i64 n] 31)) c
      rw [Nat.add_assoc, List.getElem_take, List.getElem_drop]
      exact c2
    have HBZ : Hid (cap = cutF x N → cutL x y N = 0) := by show _ → _; omega
    clear hB
    obtain ⟨fr, hfr⟩ : ∃ fr, cutF x N = fr := ⟨_, rfl⟩
    obtain ⟨ln, hln⟩ : ∃ ln, cutL x y N = ln := ⟨_, rfl⟩
    have HFR := hid hfr
    have HLN := hid hln
    rw [hfr] at f1 f2 l1 l2 HBY HBZ
    rw [hln] at l1 l2 HBY HBZ
    have g1 := f2.symm
    have g2 := l2.symm
    clear hfr hln f2 l2
    obtain ⟨xx, hxx⟩ : ∃ xx, IntKind.u64.wrap x = xx := ⟨_, rfl⟩
    obtain ⟨yy, hyy⟩ : ∃ yy, IntKind.u64.wrap y = yy := ⟨_, rfl⟩
    rw [hxx] at g1 x0
    rw [hyy] at g2 y0
    have z1 : (0 : Int) < (N : Int) + 1 := by omega
    have z2 : (0 : Int) < (N : Int) - fr + 1 := by omega
    have z3 : fr ≤ fr + ln := by omega
    have z4 : fr + ln ≤ cap := by omega
    obtain ⟨x0, x1⟩ := x0
    obtain ⟨y0, y1⟩ := y0
    rw [HFR.out, HLN.out]
    by_cases he : cap = fr
    · subst he
      obtain rfl : ln = 0 := HBZ.out rfl
      have z5 : cap - cap = 0 := by omega
      go_enter Try.func10, Try.ntmps10
      go_wp2
      go_quiet (fail)
      go_wp2
      go_ret2
      exact ⟨some ⟨g, o, none⟩, by first | rfl | (rw [z5]; rfl) | simp, fun k hk => (by simp at hk), fun g' o' e => (by cases e; first | exact ⟨o, rfl⟩ | rfl), HB0.out nq⟩
    · have e3 : fr + ln - fr = ln := by omega
      go_enter Try.func10, Try.ntmps10
      go_wp2
      go_quiet (fail)
      go_wp2
      go_ret2
      exact ⟨_, by first | rfl | simp, HBY.out nq, fun g' o' e => (by cases e; first | exact ⟨o, rfl⟩ | rfl), HB0.out nq⟩
set_option maxHeartbeats 400000 in
theorem based_any (w : World) (x : Int) (h0 : 0 ≤ x) : Calls Try.prog 20 #[.int .u64 x] w fun e w' => e = .returned (.int .u64 (x % 4611686018427387905)) ∧ w' = w := by
  go_enter Try.func20, Try.ntmps20
  go_wp2
  go_ret
  exact ⟨rfl, rfl⟩
theorem finB_any {w : World} {p : Nat} {F : Bf} {f : Int → BitVec 8} {S : Nat → Prop} (H : Buf w p F f S) (off : Int) (h0 : 0 ≤ off) :
    Calls Try.prog 18 #[.pointer (some ⟨p, 0, none⟩), .int .u64 off] w fun e w' => e = .returned (.int .i64 (F.finE off)) ∧ Buf w' p (F.endAt off) f S ∧ Fr S w w' := by
  obtain ⟨v, b, n, D, h1, h2⟩ := H
  refine (fin_any h1.r off h0).mono ?_
  rintro e w' ⟨rfl, r1, r2⟩
  have hpb : ¬ SB b D p := h1.sto.not_of_cells h1.r.set.hp (by decide)
  have hL : (F.endAt off).L = F.L ∧ (F.endAt off).read = F.read ∧ (F.endAt off).base = F.base := by unfold Bf.endAt; split <;> exact ⟨rfl, rfl, rfl⟩
  refine ⟨rfl, ⟨v, b, n, D, ⟨r1, h1.sto.kept r2 (fun k hk e => by subst e; exact hpb hk), fun x hx => ?_, ?_⟩, h2⟩, r2.wider (fun k e => by subst e; exact h2 _ (.inl rfl))⟩
  · rw [hL.1] at hx
    exact (h1.byt x hx).kept r2 (fun k hk e => by subst e; exact hpb hk)
  · rw [hL.1, hL.2.1, hL.2.2]
    exact h1.few
/-- An own row of bytes. -/
abbrev OwnBy (w : World) (v : Value) (l : List (BitVec 8)) : Prop := w.ownsRow 0 5 1 v l.length (bcells l)
theorem ownBy_shape {w : World} {v : Value} {l : List (BitVec 8)} (h : OwnBy w v l) : ∃ a cap, v = .slice a l.length cap ∧ BytesAt w a l := by
  obtain ⟨hl, ⟨rfl, hn⟩ | ⟨g, cap, cur, rfl, _, hg, hnc, hcm, hcs, htk⟩⟩ := h
  · refine ⟨none, 0, by rw [hn], fun k hk => by omega⟩
  · refine ⟨some ⟨g, 0, none⟩, cap, rfl, fun k hk => ⟨g, 0, rfl, ?_⟩⟩
    have h1 := bcells_get hk
    rw [Nat.zero_add, cell_of_row w g _ _ _ _ hg, ← h1, ← htk, List.getElem?_take, if_pos (by omega), Array.getElem?_toList]
theorem ownBy_kept {w w' : World} {v : Value} {l : List (BitVec 8)} (h : OwnBy w v l) {S : Nat → Prop} (hf : Fr S w w') (hS : ∀ g, v.ownBlock = some g → ¬ S g) : OwnBy w' v l := by
  refine ⟨h.1, ?_⟩
  rcases h.2 with e | ⟨g, cap, cur, hv, h1, hg, h2⟩
  · exact .inl e
  · exact .inr ⟨g, cap, cur, hv, h1, (hf.block g (Array.getElem?_eq_some_iff.1 hg).1 (hS g (by rw [hv]; rfl))).trans hg, h2⟩
theorem ownBy_lt {w : World} {v : Value} {l : List (BitVec 8)} (h : OwnBy w v l) {g : Nat} (hg : v.ownBlock = some g) : g < w.heap.size := by
  rcases h.2 with ⟨rfl, _⟩ | ⟨g', cap, cur, rfl, _, hgg, _⟩
  · simp [Value.ownBlock] at hg
  · simp only [Value.ownBlock, Option.some.injEq] at hg
    subst hg
    exact (Array.getElem?_eq_some_iff.1 hgg).1
end Go.Proofs.Ytimiokbnhneggaa

namespace Go.Proofs.Ytimiokbnhneggaa
open Go.RowKit Go.Maps Go.Sort
set_option maxRecDepth 100000

/-- What the law knows when told has been read of the stream. -/
structure StrI (s : List (BitVec 8)) (base : Int) (F : Bf) (f : Int → BitVec 8) (k : Nat) (fin : Bool) : Prop where
  kl : k ≤ s.length
  bs : F.base = base
  rd : F.read = base + k
  inn : ∀ x, mem F.L x → base ≤ x ∧ x < base + s.length ∧ ∀ c, s[(x - base).toNat]? = some c → f x = c
  en : F.ends = fin
  fi : fin = true → F.fin = base + s.length
theorem StrI.come {s : List (BitVec 8)} {base : Int} {F : Bf} {f : Int → BitVec 8} {k : Nat} {fin : Bool} (h : StrI s base F f k fin) (ok : F.Ok) : comeOf F.read F.L ≤ base + s.length := by
  unfold comeOf
  cases hL : F.L.getLast? with
  | none => have := h.rd; have := h.kl; simp; omega
  | some r =>
    have hr := List.mem_of_getLast? hL
    have h1 := ok.fit.1 r hr
    have h2 := (h.inn (r.2 - 1) ⟨r, hr, by omega, by omega⟩).2.1
    simp
    omega
theorem StrI.fin {s : List (BitVec 8)} {base : Int} {F : Bf} {f : Int → BitVec 8} {k : Nat} {fin : Bool} (h : StrI s base F f k fin) (ok : F.Ok) :
    (F.finE (base + s.length) = 0 ∧ base + s.length ≤ F.edge ∧ StrI s base (F.endAt (base + s.length)) f k true) ∨ (F.finE (base + s.length) = 83 ∧ F.edge < base + s.length ∧ F.endAt (base + s.length) = F) := by
  by_cases he : F.edge < base + s.length
  · right
    have e : F.finE (base + s.length) = 83 := by unfold Bf.finE; rw [if_pos he]
    refine ⟨e, he, ?_⟩
    unfold Bf.endAt
    rw [e, if_neg (by decide)]
  · left
    have h1 : ¬ ((F.ends = true ∧ base + (s.length : Int) ≠ F.fin) ∨ base + (s.length : Int) < comeOf F.read F.L) := by
      rintro (⟨a, b⟩ | b)
      · exact b (h.fi (h.en.symm.trans a)).symm
      · have := h.come ok; omega
    have e : F.finE (base + s.length) = 0 := by unfold Bf.finE; rw [if_neg he, if_neg h1]
    refine ⟨e, by omega, ?_⟩
    unfold Bf.endAt
    rw [if_pos e]
    exact ⟨h.kl, h.bs, h.rd, h.inn, rfl, fun _ => rfl⟩
/-- A piece of the stream is offered. -/
theorem StrI.take {s : List (BitVec 8)} {base : Int} {F : Bf} {f : Int → BitVec 8} {k : Nat} {fin : Bool} (h : StrI s base F f k fin) (ok : F.Ok) {fr ln : Nat} (hl : fr + ln ≤ s.length) :
    StrI s base (F.tk (base + fr) ln) (F.tkf f (base + fr) ((s.drop fr).take ln)) k fin ∧
      ((F.refuses (base + fr) ln = 0 ∧ ¬ F.edge < base + fr + ln ∧ ln ≠ 0) ∨ (F.refuses (base + fr) ln = 82 ∧ ln = 0) ∨ (F.refuses (base + fr) ln = 83 ∧ F.edge < base + fr + ln) ∨ (F.refuses (base + fr) ln = 86 ∧ ¬ F.edge < base + fr + ln ∧ F.gap < base + fr)) := by
  have hlen : ((s.drop fr).take ln).length = ln := by simp; omega
  unfold Bf.tk Bf.tkf
  rw [hlen]
  by_cases hr : F.refuses (base + fr) ln = 0
  · rw [if_pos hr, if_pos hr]
    obtain ⟨r1, r2, r3, r4, r5⟩ := refuses_ok hr
    refine ⟨⟨h.kl, h.bs, h.rd, fun x hx => ?_, h.en, h.fi⟩, .inl ⟨hr, by omega, by omega⟩⟩
    have hx' := (addL_mem ok.fit (F.rg (base + fr) ln) x).1 hx
    unfold Bf.new
    by_cases hm : mem F.L x
    · rw [if_pos ((gap_iff ok.fit x).2 hm)]
      exact h.inn x hm
    · rw [if_neg (fun e => hm ((gap_iff ok.fit x).1 e))]
      rcases hx' with e | e
      · exact absurd e hm
      · unfold Bf.rg at e
        simp only at e
        refine ⟨by omega, by omega, fun c hc => ?_⟩
        have e1 : ((s.drop fr).take ln)[(x - (base + fr)).toNat]? = some c := by
          rw [List.getElem?_take, if_pos (by omega), List.getElem?_drop, ← hc]
          congr 1
          omega
        rw [e1]
        rfl
  · rw [if_neg hr, if_neg hr]
    refine ⟨h, .inr ?_⟩
    unfold Bf.refuses at hr ⊢
    by_cases c1 : (ln : Int) = 0
    · rw [if_pos c1]; exact .inl ⟨rfl, by omega⟩
    · rw [if_neg c1] at hr ⊢
      by_cases c2 : F.edge < base + fr ∨ F.edge - (base + fr) < ln
      · rw [if_pos c2]; exact .inr (.inl ⟨rfl, by omega⟩)
      · rw [if_neg c2] at hr ⊢
        have c3 : ¬ (F.ends = true ∧ F.fin < base + fr + ln) := fun ⟨a, b⟩ => by have := h.fi (h.en.symm.trans a); omega
        rw [if_neg c3] at hr ⊢
        by_cases c4 : F.crowds (base + fr) ln = true
        · rw [if_pos c4]
          refine .inr (.inr ⟨rfl, by omega, ?_⟩)
          unfold Bf.crowds at c4
          by_cases c5 : base + fr ≤ F.gap
          · rw [if_pos c5] at c4; cases c4
          · omega
        · rw [if_neg c4] at hr; exact absurd rfl hr
/-- A Read of n. -/
theorem StrI.read {s : List (BitVec 8)} {base : Int} {F : Bf} {f : Int → BitVec 8} {k : Nat} {fin : Bool} (h : StrI s base F f k fin) (ok : F.Ok) {n : Int} (hn : 0 ≤ n) :
    StrI s base (F.rdOn n) f (k + (F.rdB f n).length) fin ∧ F.rdB f n = (s.drop k).take (F.rdB f n).length ∧ ((F.rdB f n).length : Int) ≤ n ∧
      (decide (F.gap = F.read) && F.done) = (fin && decide (k + (F.rdB f n).length = s.length) && decide ((F.rdB f n).length = 0)) := by
  obtain ⟨g1, g2, g3⟩ := gap_edge ok
  have hgl : F.gap ≤ base + s.length := by
    by_cases hg : F.gap = F.read
    · have := h.rd; have := h.kl; omega
    · have := (h.inn (F.gap - 1) (gap_all ok.fit F.read (F.gap - 1) (by omega) (by show _ < F.gap; omega))).2.1
      omega
  have hrd := h.rd
  unfold Bf.rdOn Bf.rdB
  by_cases hg : F.gap = F.read
  · rw [if_pos (.inr hg), if_pos (.inr hg)]
    refine ⟨h, by simp, by simpa using hn, ?_⟩
    unfold Bf.done
    simp only [hg, List.length_nil, Nat.add_zero, decide_true, Bool.true_and, Bool.and_true]
    rw [h.en]
    cases hf : fin with
    | false => simp
    | true =>
      have := h.fi hf
      simp only [Bool.true_and, decide_eq_decide]
      omega
  · have hc : ¬ (n < 0 ∨ F.gap = F.read) := by omega
    rw [if_neg hc, if_neg hc]
    obtain ⟨c1, c2⟩ := cnt_le ok hn
    rw [bytesFrom_len]
    refine ⟨⟨by omega, h.bs, ?_, fun x hx => ?_, h.en, h.fi⟩, ?_, by omega, ?_⟩
    · show F.read + F.cnt n = _; omega
    · exact h.inn x ((rem_below ok x).1 hx).1
    · apply List.ext_getElem
      · simp [bytesFrom_len]; omega
      · intro i h1 h2
        rw [bytesFrom_len] at h1
        rw [bytesFrom_get, List.getElem_take, List.getElem_drop]
        have hm := gap_all ok.fit F.read (F.read + i) (by omega) (by show _ < F.gap; omega)
        exact (h.inn _ hm).2.2 _ (by rw [show (F.read + (i : Int) - base).toNat = k + i by omega]; exact List.getElem?_eq_getElem (by omega))
    · have e1 : decide (F.gap = F.read) = false := by simp [hg]
      rw [e1, Bool.false_and]
      cases fin with
      | false => simp
      | true =>
        symm
        simp only [Bool.true_and, Bool.and_eq_false_iff, decide_eq_false_iff_not]
        by_cases hz : F.cnt n = 0
        · left; omega
        · right; exact hz
end Go.Proofs.Ytimiokbnhneggaa
namespace Go.Proofs.Ytimiokbnhneggaa
open Go.RowKit Go.Maps Go.Sort
set_option maxRecDepth 100000

/-- A piece: From, Len, Fin, N. -/
structure Pc where
  x : Int
  y : Int
  fin : Bool
  n : Int
instance : Inhabited Pc := ⟨⟨0, 0, false, 0⟩⟩
def Pc.cells (o : Pc) : List Value := [.int .i64 o.x, .int .i64 o.y, .bool o.fin, .int .i64 o.n]
def PcsAt (w : World) (a : Option Addr) (S : List Pc) : Prop := ∀ k (h : k < S.length), ∃ g o, a = some ⟨g, o, none⟩ ∧ ∀ j v, S[k].cells[j]? = some v → w.cell? ⟨g, o + k * 4 + j, none⟩ = some v
theorem PcsAt.kept {w w' : World} {a : Option Addr} {S : List Pc} (h : PcsAt w a S) (hb : Below w.heap.size w w') : PcsAt w' a S := fun i hi => by
  obtain ⟨g, o, e, h1⟩ := h i hi
  exact ⟨g, o, e, fun j v hv => cell_kept hb (h1 j v hv)⟩
/-- 'append' of bytes to an own row. -/
theorem wpAppendB {w : World} {ops : Array Oper} {rest : List Oper} {o : Oper} {a : Act} {Q : Exit → Act → World → Prop} (hgd : o.guard = none) (s x : Operand) (ho : o.op = .call { callee := .builtin .append, args := #[s, x], argTypes := #[22, 22] })
    {v : Value} {A B : List (BitVec 8)} {ax : Option Addr} {n cx : Nat} (hs : a.eval s = v) (hown : OwnBy w v A) (hx : a.eval x = .slice ax n cx) (hn : B.length = n) (C : BytesAt w ax B) (hl : A.length + B.length ≤ 140737488355328)
    (h : ∀ v' w', OwnBy w' v' (A ++ B) → w.grownBy w' v.ownBlock → (v'.ownBlock = v.ownBlock ∨ v'.ownBlock = some w.heap.size) → wpList Try.prog ops Q rest (a.put o.dst v') w') : wpList Try.prog ops Q (o :: rest) a w := by
  subst hn
  have key : ∃ v' w', (Builtin.append_ #[22, 22] o.type #[v, .slice ax B.length cx]).run Try.prog w = .ok v' w' ∧ OwnBy w' v' (A ++ B) ∧ w.grownBy w' v.ownBlock ∧ (v'.ownBlock = v.ownBlock ∨ v'.ownBlock = some w.heap.size) := by
    obtain ⟨i0, hi, hz0, hz1, hz2⟩ := info5
    cases ax with
    | none =>
      have hB : B = [] := by
        cases B with
        | nil => rfl
        | cons b l => obtain ⟨g, o, e, _⟩ := C 0 (by simp); cases e
      subst hB
      refine ⟨v, w, ?_, by simpa using hown, ⟨rfl, rfl, rfl, Nat.le_refl _, fun _ _ _ => rfl⟩, .inl rfl⟩
      rcases hown.2 with ⟨rfl, _⟩ | ⟨g, cap, cur, rfl, _, _, hc, _⟩
      · simp [Builtin.append_, run_underlying Try.underlying22, sizeOf, typeInfo, hi, Builtin.lenOf, Builtin.firstCells]
      · simp [Builtin.append_, run_underlying Try.underlying22, sizeOf, typeInfo, hi, Builtin.lenOf, Builtin.firstCells, storeCells, hc]
    | some ad =>
      obtain ⟨v', w', hr, k1, k2, _, k3⟩ := run_append_own_at (P := Try.prog) w 0 22 o.type 5 i0 (.int .u8 0) 1 1 Try.underlying22 hi hz0 hz1 hz2 rfl (by decide) _ A.length (bcells A) hown ad B.length cx (bcells B) (by rw [bcells_len]; omega) (fun j y hj => by
          have hj' : j < B.length := by have := (List.getElem?_eq_some_iff.1 hj).1; rwa [bcells_len] at this
          obtain ⟨g, o2, e, hc⟩ := C j hj'
          cases e
          rw [bcells_get hj'] at hj
          rw [Addr.add_mid, hc]
          exact hj) (bcells_one B) (by unfold maxLen; omega) (by omega) (Nat.zero_le _)
      refine ⟨v', w', hr, ?_, k2, k3⟩
      have e : bcells (A ++ B) = bcells A ++ bcells B := by simp [bcells]
      show w'.ownsRow 0 5 1 v' (A ++ B).length (bcells (A ++ B))
      rw [List.length_append, e]
      exact k1
  obtain ⟨v', w', hr, k1, k2, k3⟩ := key
  refine wpList_plain hgd fun K hK => ?_
  unfold Oper.wp execOp
  simp only [ho, resolve, invoke, builtin, Sem.run_bind, Sem.run_pure, Result.andThen_ok, List.map_toArray, List.map_cons, List.map_nil, hs, hx, hr]
  exact hK _ _ (h v' w' k1 k2 k3)
/-- What the loop keeps. -/
structure LoopI (w wr : World) (p : Nat) (s : List (BitVec 8)) (base C : Int) (F : Bf) (f : Int → BitVec 8) (S : Nat → Prop) (v : Value) (k : Nat) (fin : Bool) : Prop where
  buf : Buf wr p F f S
  st : StrI s base F f k fin
  rm : F.room = C
  own : OwnBy wr v (s.take k)
  sb : ∀ x, S x → w.heap.size ≤ x ∧ x < wr.heap.size
  ap : ∀ g, v.ownBlock = some g → w.heap.size ≤ g ∧ ¬ S g
  bel : Below w.heap.size w wr
theorem LoopI.kept {w wr w' : World} {p : Nat} {s : List (BitVec 8)} {base C : Int} {F : Bf} {f : Int → BitVec 8} {S : Nat → Prop} {v : Value} {k : Nat} {fin : Bool} (h : LoopI w wr p s base C F f S v k fin) (hb : Below wr.heap.size wr w') : LoopI w w' p s base C F f S v k fin :=
  ⟨h.buf.kept hb, h.st, h.rm, ownBy_kept (S := fun _ => False) h.own (Fr.of_below hb (Nat.le_refl _)) (fun _ _ h => h), fun x hx => ⟨(h.sb x hx).1, Nat.lt_of_lt_of_le (h.sb x hx).2 hb.size⟩, h.ap, h.bel.trans (hb.mono h.bel.size)⟩
/-- A call that turns nothing but what is the buffer's. -/
theorem LoopI.turn {w wr w' : World} {p : Nat} {s : List (BitVec 8)} {base C : Int} {F F' : Bf} {f f' : Int → BitVec 8} {S S' : Nat → Prop} {v : Value} {k : Nat} {fin fin' : Bool} (h : LoopI w wr p s base C F f S v k fin) (hB : Buf w' p F' f' S') (hf : Fr S wr w') (hS : ∀ x, S' x → S x ∨ wr.heap.size ≤ x) (hst : StrI s base F' f' k fin') (hr : F'.room = C) : LoopI w w' p s base C F' f' (fun x => S' x ∧ x < w'.heap.size) v k fin' := by
  refine ⟨hB.tight, hst, hr, ownBy_kept h.own hf (fun g hg => (h.ap g hg).2), fun x hx => ⟨?_, hx.2⟩, fun g hg => ⟨(h.ap g hg).1, fun e => ?_⟩, ?_⟩
  · rcases hS x hx.1 with e | e
    · exact (h.sb x e).1
    · exact Nat.le_trans h.bel.size e
  · rcases hS g e.1 with e | e
    · exact (h.ap g hg).2 e
    · have := ownBy_lt h.own hg; omega
  · exact h.bel.trans (hf.below (fun x hx => (h.sb x hx).1) h.bel.size)
theorem tk_edge (F : Bf) (off n : Int) : (F.tk off n).edge = F.edge ∧ (F.tk off n).room = F.room := by unfold Bf.tk; split <;> exact ⟨rfl, rfl⟩
theorem end_room (F : Bf) (off : Int) : (F.endAt off).edge = F.edge ∧ (F.endAt off).room = F.room := by unfold Bf.endAt; split <;> exact ⟨rfl, rfl⟩
theorem rd_room (F : Bf) (n : Int) : (F.rdOn n).room = F.room := by unfold Bf.rdOn; split <;> rfl
end Go.Proofs.Ytimiokbnhneggaa
namespace Go.Proofs.Ytimiokbnhneggaa
open Go.RowKit Go.Maps Go.Sort
set_option maxRecDepth 100000

/-- Behind a Read and the append of what was read. -/
theorem LoopI.read {w wr w3 w4 : World} {p : Nat} {s : List (BitVec 8)} {base C : Int} {F F' : Bf} {f f' : Int → BitVec 8} {S S' : Nat → Prop} {v v' : Value} {k n : Nat} {fin : Bool} (h : LoopI w wr p s base C F f S v k fin) (hB : Buf w3 p F' f' S') (hf : Fr S wr w3) (hS : ∀ x, S' x → S x ∨ wr.heap.size ≤ x) (hst : StrI s base F' f' (k + n) fin) (hr : F'.room = C)
    (hown : OwnBy w4 v' (s.take (k + n))) (hg : w3.grownBy w4 v.ownBlock) (hv : v'.ownBlock = v.ownBlock ∨ v'.ownBlock = some w3.heap.size) : LoopI w w4 p s base C F' f' (fun x => S' x ∧ x < w3.heap.size) v' (k + n) fin := by
  have hfr : Fr (fun x => v.ownBlock = some x) w3 w4 := Fr.of_grown hg (fun k hk => .inl hk)
  have hno : ∀ g, v.ownBlock = some g → ¬ S' g := fun g hg e => by
    rcases hS g e with e | e
    · exact (h.ap g hg).2 e
    · have := ownBy_lt h.own hg; omega
  refine ⟨hB.tight.apart hfr (fun k hk e => hno k e hk.1), hst, hr, hown, fun x hx => ⟨?_, Nat.lt_of_lt_of_le hx.2 hfr.size⟩, fun g hg => ?_, ?_⟩
  · rcases hS x hx.1 with e | e
    · exact (h.sb x e).1
    · exact Nat.le_trans h.bel.size e
  · rcases hv with e | e
    · rw [e] at hg
      exact ⟨(h.ap g hg).1, fun e => hno g hg e.1⟩
    · rw [e] at hg
      cases hg
      exact ⟨Nat.le_trans h.bel.size hf.size, fun e => Nat.lt_irrefl _ e.2⟩
  · have h1 := hf.below (B := w.heap.size) (fun x hx => (h.sb x hx).1) h.bel.size
    have h2 := hfr.below (B := w.heap.size) (fun x hx => (h.ap x hx).1) (Nat.le_trans h.bel.size hf.size)
    exact (h.bel.trans h1).trans h2
theorem own_not_row {w : World} {v : Value} {l : List (BitVec 8)} (h : OwnBy w v l) {g : Nat} {c : List Value} (hr : Row w g c 31) : v.ownBlock ≠ some g := fun e => by
  rcases h.2 with ⟨rfl, _⟩ | ⟨g', cap, cur, rfl, _, hgg, _⟩
  · simp [Value.ownBlock] at e
  · simp only [Value.ownBlock, Option.some.injEq] at e
    subst e
    have h1 := hr.at_.symm.trans hgg
    simp at h1
theorem bytes_take {w : World} {a : Option Addr} {s : List (BitVec 8)} (h : BytesAt w a s) (L : Nat) : BytesAt w a (s.take L) := fun k hk => by
  have hk' : k < s.length := by simp at hk; omega
  obtain ⟨g, o, e, c⟩ := h k hk'
  exact ⟨g, o, e, by rw [List.getElem_take]; exact c⟩
/-- Take, with what is asked of the bytes' block asked of bytes alone. -/
theorem take_any2 {w : World} {p : Nat} {F : Bf} {f : Int → BitVec 8} {S : Nat → Prop} (H : Buf w p F f S) {off : Int} (h0 : 0 ≤ off) (hx : off ≤ 18446744073709551615) {d : List (BitVec 8)} {a : Option Addr} {cap : Nat} (hcap : d.length ≤ cap) (hcm : cap ≤ maxLen) (hB : BytesAt w a d)
    (N : Nat) (hN : d.length = N) (hS : N ≠ 0 → ∀ g o, a = some ⟨g, o, none⟩ → ¬ S g) :
    Calls Try.prog 11 #[.pointer (some ⟨p, 0, none⟩), .int .u64 off, .slice a N cap] w fun e w' => e = .returned (.tuple #[.int .i64 (F.tkn off N), .int .i64 (F.refuses off N)]) ∧
      ∃ S', Buf w' p (F.tk off N) (F.tkf f off d) S' ∧ Fr S w w' ∧ ∀ k, S' k → S k ∨ w.heap.size ≤ k := by
  by_cases hz : N = 0
  · have hr : F.refuses off N ≠ 0 := fun e => by have := (refuses_ok e).1; omega
    obtain ⟨v, b, n, D, h1, h2⟩ := H
    unfold Bf.tkn Bf.tk Bf.tkf
    rw [hN, if_neg hr, if_neg hr, if_neg hr]
    refine (take_no h1.r h0 hx N (by omega) hcm hr).mono ?_
    rintro e w' ⟨rfl, hb⟩
    exact ⟨rfl, S, ⟨v, b, n, D, h1.kept hb, h2⟩, Fr.of_below hb (Nat.le_refl _), fun k hk => .inl hk⟩
  · exact take_any H h0 hx hcap hcm hB (hS hz) N hN
theorem fld473 (w : World) (x0 x3 x4 x6 : Int) (x1 x2 : Int) (g n : Nat) (e : Bool) : (Instr.field 47 (.agg #[.int .u64 x0, .int .i64 x1, .int .i64 x2, .int .u64 x3, .int .u64 x4, .slice (some ⟨g, 0, none⟩) n n, .int .u64 x6, .bool e]) 3).run Try.prog w = .ok (.int .u64 x3) w := by kernel_rfl
end Go.Proofs.Ytimiokbnhneggaa
