import Derived.Test.YtjnmfedefmemnaaHeals0
import Derived.Laws.OwnMore
import Derived.StillTailTactics
namespace Go.Proofs.Ytjnmfedefmemnaa
open Go.RowKit Go.Maps
set_option maxRecDepth 100000

/-- The row of bytes that the law keeps beside the net: its block, where it has bytes. -/
def Now (base : Nat) (w : World) (a : Option Addr) (tl : List Value) (bs : List (BitVec 8)) : Prop := bs ≠ [] → ∃ gn, a = some ⟨gn, 0, none⟩ ∧ base ≤ gn ∧ Row w gn (bcells bs ++ tl) 5
theorem Now.kept {base : Nat} {w w' : World} {a : Option Addr} {tl : List Value} {bs : List (BitVec 8)} (h : Now base w a tl bs) (hb : Below w.heap.size w w') : Now base w' a tl bs := fun hn => by
  obtain ⟨gn, e, h1, h2⟩ := h hn
  exact ⟨gn, e, h1, h2.kept hb h2.lt⟩
theorem Now.bytes {base : Nat} {w : World} {a : Option Addr} {tl : List Value} {bs : List (BitVec 8)} (h : Now base w a tl bs) : BytesAt w a bs := fun k hk => by
  obtain ⟨gn, e, h1, h2⟩ := h (fun h0 => by subst h0; simp at hk)
  refine ⟨gn, 0, e, ?_⟩
  rw [Nat.zero_add]
  refine h2.cell k _ ?_
  rw [List.getElem?_append_left (by rw [bcells_len]; exact hk), bcells_get hk]
theorem Now.only {S : List Nat} {base : Nat} {w w' : World} {a : Option Addr} {tl : List Value} {bs : List (BitVec 8)} (h : Now base w a tl bs) (ho : Only S w w') (hS : ∀ x ∈ S, ∀ cc, ¬ Row w x cc 5) : Now base w' a tl bs := fun hn => by
  obtain ⟨gn, e, h1, h2⟩ := h hn
  exact ⟨gn, e, h1, ho.row h2 (fun hm => hS _ hm _ h2)⟩
theorem append_now {w : World} {a : Option Addr} {n cap : Nat} {bs : List (BitVec 8)} (hB : BytesAt w a bs) (hn : bs.length = n) (hl : n ≤ 140737488351232) (ty : TypeId) :
    ∃ a' cap' tl w', (Builtin.append_ #[22, 22] ty #[.slice none 0 0, .slice a n cap]).run Try.prog w = .ok (.slice a' n cap') w' ∧ Now w.heap.size w' a' tl bs ∧ Below w.heap.size w w' := by
  obtain ⟨i, i1, i2, i3, i4⟩ := info5
  cases a with
  | none =>
    have h0 : bs = [] := by
      cases bs with
      | nil => rfl
      | cons x l => obtain ⟨g, o, e, _⟩ := hB 0 (by simp); cases e
    subst h0
    subst hn
    refine ⟨none, 0, [], w, ?_, fun h => absurd rfl h, Below.refl _ _⟩
    simp [Builtin.append_, run_underlying Try.underlying22, sizeOf, typeInfo, i1, Builtin.lenOf, Builtin.firstCells]
  | some ad =>
    obtain ⟨v', w', hr, ho, hg, _⟩ := run_append_own (P := Try.prog) w w.heap.size 22 ty 5 i (.int .u8 0) 1 1 Try.underlying22 i1 i2 i3 i4 rfl (by decide) (.slice none 0 0) 0 [] ⟨rfl, .inl ⟨rfl, rfl⟩⟩ ad n cap (bcells bs) (by rw [bcells_len]; omega) (fun j u hu => by
      have hj : j < bs.length := by have := (List.getElem?_eq_some_iff.1 hu).1; rwa [bcells_len] at this
      obtain ⟨g, o, e, c⟩ := hB j hj
      cases e
      rw [Addr.add_mid, c, ← hu, bcells_get hj]) (bcells_one bs) (by unfold maxLen; omega) (by omega) (Nat.le_refl _)
    have hbel : Below w.heap.size w w' := ⟨hg.os, hg.tape, hg.output, hg.size, fun k hk => hg.block k hk (by simp [Value.ownBlock])⟩
    obtain ⟨h1, ⟨rfl, h0⟩ | ⟨g, cap', cur, rfl, hb, hh, hc, _, hs, ht⟩⟩ := ho
    · have : bs = [] := List.length_eq_zero_iff.1 (by omega)
      have hn0 : n = 0 := by omega
      exact ⟨none, 0, [], w', by rw [hr, hn0], fun h => absurd this h, hbel⟩
    · refine ⟨some ⟨g, 0, none⟩, cap', cur.toList.drop n, w', by rw [hr, Nat.zero_add], fun _ => ⟨g, rfl, hb, ⟨?_⟩⟩, hbel⟩
      have e : bcells bs ++ cur.toList.drop n = cur.toList := by
        have h2 : cur.toList.take n = bcells bs := by rw [← List.nil_append (bcells bs), ← ht]; simp
        rw [← h2, List.take_append_drop]
      rw [e]
      simpa using hh
/-- Put onto a path that holds nothing. -/
theorem heals_put {B : Nat} {w : World} {p g : Nat} (h : Lane B w p g 1 0 0 true 1 0 (roadv 1) (.slice none 0 0) [] []) {a : Option Addr} {m cap : Nat} {bs : List (BitVec 8)} (hF : BytesAt w a bs) (hm : bs.length = m) (hm2 : m ≤ 140737488351232) :
    Calls Try.prog 10 #[.pointer (some ⟨p, 0, none⟩), .int .i64 0, .int .i64 0, .slice a m cap] w fun e w' => e = .returned (.tuple #[.bool true, .int .i64 0]) ∧ (∃ q c v gb, HAt B w' p g q 0 bs (fun _ => 0) c v (.map none) gb) ∧ Below B w w' := by
  obtain ⟨P, hP⟩ := h.hput
  refine (put_in (k := 0) (d := 0) h.net h.row h.hk h.hd h.hup h.hcap hP h.hbag h.bag (by decide) h.cap30 hF hm (by omega)).mono ?_
  rintro e w' ⟨rfl, v', q, P', hr, hbag, hq, ⟨gb, p1, p2⟩, ho, hx⟩
  have hk := h.keeps ho
  refine ⟨rfl, ⟨q, ((roadv 1).set (0 * 16 + 4 + 0) (Value.int IntKind.u64 P')).set (0 * 16 + 14 + 0) v', v', gb, ?_⟩, hk.below⟩
  obtain ⟨T, hT⟩ := h.htak
  exact
    { net := hk.row h.net (by decide) (by decide), row := hr, bp := h.bp, bg := h.bg
      hup := set_at (set_at h.hup (by omega)) (by omega), htak := ⟨T, set_at (set_at hT (by omega)) (by omega)⟩
      hbag := by rw [List.getElem?_set_self (by simp [roadv])]
      bag := hbag
      bb := fun x hxx => by
        rcases hx x hxx with h1 | h1
        · exact h.bb x h1
        · exact Nat.le_trans h.lt h1
      bq := Nat.le_trans h.lt hq
      bm := fun x hx => by cases hx
      pr := p1, pb := p2, tu := .inl ⟨rfl, fun _ _ => rfl⟩, fl := by omega }
theorem HAt.lt {B : Nat} {w : World} {p g K : Nat} {bs : List (BitVec 8)} {T : Nat → BitVec 8} {q gb : Nat} {c : List Value} {v mv : Value} (h : HAt B w p g q K bs T c v mv gb) : B ≤ w.heap.size := Nat.le_of_lt (Nat.lt_of_le_of_lt h.bg h.row.lt)
/-- A byte of the law's own row is turned. -/
theorem now_set {w : World} {gn j : Nat} {tl : List Value} {bs : List (BitVec 8)} (h : Row w gn (bcells bs ++ tl) 5) (hj : j < bs.length) (x : BitVec 8) : Row (w.setCell ⟨gn, j, none⟩ (.int .u8 (ub x))) gn (bcells (bs.set j x) ++ tl) 5 := by
  have := h.set j (.int .u8 (ub x))
  rwa [List.set_append_left _ _ (by rw [bcells_len]; exact hj), bcells_set] at this
/-- The net with its one frame, and the law's own row beside it. -/
structure St (W w : World) (base p g q gb : Nat) (f : List (BitVec 8)) (c : List Value) (v : Value) (a : Option Addr) (tl : List Value) (T T' : Nat → BitVec 8) (b : Nat) : Prop where
  net : ∃ K mv, HAt W.heap.size w p g q K f T c v mv gb ∧ K ≤ b
  now : Now base w a tl (xorT f T')
  old : gb < base
  ge : W.heap.size ≤ base
  bel : Below W.heap.size W w
section
variable {W w w' : World} {base p g q gb b : Nat} {f : List (BitVec 8)} {c : List Value} {v : Value} {a : Option Addr} {tl : List Value} {T T' : Nat → BitVec 8}
theorem St.kept (h : St W w base p g q gb f c v a tl T T' b) (hb : Below w.heap.size w w') : St W w' base p g q gb f c v a tl T T' b := by
  obtain ⟨K, mv, hh, hK⟩ := h.net
  exact ⟨⟨K, mv, hh.kept hb, hK⟩, h.now.kept hb, h.old, h.ge, h.bel.trans (hb.mono h.bel.size)⟩
theorem St.spoil (h : St W w base p g q gb f c v a tl T T' b) (hb : b < 281474976710656) (x : Int) (m : BitVec 8) :
    Calls Try.prog 17 #[.pointer (some ⟨p, 0, none⟩), .int .i64 0, .int .i64 0, .int .i64 0, .int .i64 x, .int .u8 (ub m)] w fun e w' => e = .returned (.int .i64 (if 0 ≤ x ∧ x < f.length then 0 else 46)) ∧ St W w' base p g q gb f c v a tl (ap f.length T x m) T' (b + 1) := by
  obtain ⟨K, mv, hh, hK⟩ := h.net
  unfold ap
  by_cases hx : 0 ≤ x ∧ x < f.length
  · rw [if_pos hx, if_pos hx]
    obtain ⟨j, rfl⟩ := Int.eq_ofNat_of_zero_le hx.1
    refine (hh.spoil (j := j) (by omega) (by omega) m).mono ?_
    rintro e w' ⟨er, rfl, rfl, ⟨mv', h1⟩, ho⟩
    refine ⟨rfl, ⟨K + 1, mv', h1, by omega⟩, h.now.only ho (fun y hy cc hr => ?_), h.old, h.ge, h.bel.trans (ho.below hh.lt (fun y hy => ?_))⟩
    · rcases List.mem_cons.1 hy with rfl | hy
      · exact absurd (hr.type hh.pr) (by decide)
      · exact mblk_ne hh.tu hr hy
    · rcases List.mem_cons.1 hy with rfl | hy
      · exact hh.bq
      · exact hh.bm y hy
  · rw [if_neg hx, if_neg hx]
    refine (hh.spoilBad (x := x) (by omega) m).mono ?_
    rintro e w' ⟨er, rfl, rfl, hb2⟩
    exact ⟨rfl, ⟨K, mv, hh.kept hb2, by omega⟩, h.now.kept hb2, h.old, h.ge, h.bel.trans (hb2.mono h.bel.size)⟩
theorem St.cell (h : St W w base p g q gb f c v a tl T T' b) {j : Nat} (hj : j < f.length) : ∃ gn, a = some ⟨gn, 0, none⟩ ∧ w.cell? ⟨gn, j, none⟩ = some (.int .u8 (ub ((xorT f T')[j]'(by rw [xorT_len]; exact hj)))) ∧ ∀ j, w.frozen? ⟨gn, j, none⟩ = false := by
  have hj' : j < (xorT f T').length := by rw [xorT_len]; exact hj
  obtain ⟨gn, e, h1, h2⟩ := h.now (fun h0 => by rw [h0] at hj'; simp at hj')
  refine ⟨gn, e, h2.cell j _ ?_, fun j => h2.frozen j⟩
  rw [List.getElem?_append_left (by rw [bcells_len]; exact hj'), bcells_get hj']
theorem St.set {gn : Nat} (h : St W w base p g q gb f c v (some ⟨gn, 0, none⟩) tl T T' b) {j : Nat} (hj : j < f.length) (m : BitVec 8) :
    St W (w.setCell ⟨gn, j, none⟩ (.int .u8 (ub ((xorT f T')[j]'(by rw [xorT_len]; exact hj) ^^^ m)))) base p g q gb f c v (some ⟨gn, 0, none⟩) tl T (turnT T' j m) b := by
  have hj' : j < (xorT f T').length := by rw [xorT_len]; exact hj
  obtain ⟨gn', e, h1, h2⟩ := h.now (fun h0 => by rw [h0] at hj'; simp at hj')
  cases e
  obtain ⟨K, mv, hh, hK⟩ := h.net
  refine ⟨⟨K, mv, hh.setByte h2 (by have := h.old; omega) j _, hK⟩, fun _ => ⟨gn, rfl, h1, ?_⟩, h.old, h.ge, ?_⟩
  · rw [← xorT_turn hj]
    exact now_set h2 hj' _
  · exact h.bel.trans (((Only.refl [gn] w).setCell gn j _ (.inl (by simp))).below h.bel.size (fun y hy => by
      have e : y = gn := by simpa using hy
      have := h.ge
      omega))
theorem St.peek (h : St W w base p g q gb f c v a tl T T' b) :
    Calls Try.prog 12 #[.pointer (some ⟨p, 0, none⟩), .int .i64 0, .int .i64 0, .int .i64 0] w fun e w' => ∃ g', e = .returned (.tuple #[.agg #[.slice (some ⟨g', 0, none⟩) f.length f.length, .bool (!decide (xorT f T = f))], .int .i64 0]) ∧ Row w' g' (bcells (xorT f T)) 5 ∧ St W w' base p g q gb f c v a tl T T' b := by
  obtain ⟨K, mv, hh, hK⟩ := h.net
  refine (NetH.peek ⟨q, c, v, mv, gb, hh⟩).mono ?_
  rintro e w' ⟨g', rfl, _, hr, hb⟩
  exact ⟨g', by rw [sp_eq], hr, h.kept hb⟩
theorem St.take (h : St W w base p g q gb f c v a tl T T' b) :
    Calls Try.prog 13 #[.pointer (some ⟨p, 0, none⟩), .int .i64 0, .int .i64 0, .int .i64 0] w fun e w' => ∃ g', e = .returned (.tuple #[.agg #[.slice (some ⟨g', 0, none⟩) f.length f.length, .bool (!decide (xorT f T = f))], .int .i64 0]) ∧ Row w' g' (bcells (xorT f T)) 5 ∧ Below W.heap.size W w' := by
  obtain ⟨K, mv, hh, hK⟩ := h.net
  refine (NetH.take ⟨q, c, v, mv, gb, hh⟩).mono ?_
  rintro e w' ⟨g', rfl, _, hr, hb⟩
  exact ⟨g', by rw [sp_eq], hr, h.bel.trans hb⟩
end
/-- The spoilings that a turn has done before its round r, and which comes then. -/
def lOf (k F t r : Nat) : List Nat := if t = 0 then List.range r else List.range k ++ (List.range r).map fun x => (F + x) % k
def jOf (k F t r : Nat) : Nat := if t = 1 then (F + r) % k else r
theorem lOf_snoc (k F t r : Nat) (ht : t < 2) : lOf k F t (r + 1) = lOf k F t r ++ [jOf k F t r] := by
  unfold lOf jOf
  have h : t = 0 ∨ t = 1 := by omega
  rcases h with rfl | rfl
  · simp [List.range_succ]
  · simp [List.range_succ]
theorem ints_at {w : World} {a : Option Addr} {pl : List Int} (h : CellsAt w a (pl.map (Value.int .i64))) {j : Nat} (hj : j < pl.length) : ∃ g o, a = some ⟨g, o, none⟩ ∧ w.cell? ⟨g, o + j, none⟩ = some (.int .i64 (pl.getD j 0)) := by
  obtain ⟨g, o, e, c⟩ := h j (by simpa using hj)
  refine ⟨g, o, e, ?_⟩
  rw [c, List.getD_eq_getElem?_getD, List.getElem?_eq_getElem hj]
  simp
theorem bytes_at {w : World} {a : Option Addr} {ms : List (BitVec 8)} (h : BytesAt w a ms) {j : Nat} (hj : j < ms.length) : ∃ g o, a = some ⟨g, o, none⟩ ∧ w.cell? ⟨g, o + j, none⟩ = some (.int .u8 (ub (ms.getD j 0))) := by
  obtain ⟨g, o, e, c⟩ := h j hj
  refine ⟨g, o, e, ?_⟩
  rw [c, List.getD_eq_getElem?_getD, List.getElem?_eq_getElem hj]
  simp
theorem idx_two (x : Int) (k r : Nat) (hr : r < k) (hk : k ≤ 140737488351232) : wrap64 ((IntKind.u64.wrap ((IntKind.u64.wrap x).tmod (k : Int) + (r : Int))).tmod (k : Int)) = ((((IntKind.u64.wrap x).toNat % k + r) % k : Nat) : Int) := by
  have h0 : 0 ≤ IntKind.u64.wrap x := by rw [IntKind.wrap_u64]; omega
  obtain ⟨z, hz⟩ := Int.eq_ofNat_of_zero_le h0
  rw [hz]
  have e1 : ((z : Int)).tmod (k : Int) = ((z % k : Nat) : Int) := by rw [Int.tmod_eq_emod_of_nonneg (by omega)]; rfl
  rw [e1, Int.toNat_natCast]
  have hlt : z % k < k := Nat.mod_lt _ (by omega)
  generalize z % k = y at *
  have e2 : IntKind.u64.wrap ((y : Int) + (r : Int)) = ((y + r : Nat) : Int) := by rw [IntKind.wrap_u64]; omega
  rw [e2]
  have e3 : (((y + r : Nat) : Int)).tmod (k : Int) = (((y + r) % k : Nat) : Int) := by rw [Int.tmod_eq_emod_of_nonneg (by omega)]; rfl
  rw [e3]
  have hl2 : (y + r) % k < k := Nat.mod_lt _ (by omega)
  generalize (y + r) % k = u at *
  unfold wrap64
  omega
def oOf (k F t : Nat) : List Nat := if t = 2 then lOf k F 1 k else lOf k F t 0
theorem lOf_end0 (k F : Nat) : lOf k F 0 k = oOf k F (0 + 1) := by simp [lOf, oOf]
theorem lOf_end1 (k F : Nat) : lOf k F 1 k = oOf k F (1 + 1) := by simp [oOf]
theorem jOf_lt (k F t r : Nat) (hr : r < k) : jOf k F t r < k := by
  unfold jOf
  split
  · exact Nat.mod_lt _ (by omega)
  · exact hr
end Go.Proofs.Ytjnmfedefmemnaa
