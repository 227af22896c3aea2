import Derived.Test.YtjbjaklbckhodabMem
import Derived.Deep.RegionLaw
namespace Go.Proofs.Ytjbjaklbckhodab
open Go.RowKit
set_option maxRecDepth 100000

theorem wpList_copy2 {w : World} {ops : Array Oper} {rest : List Oper} {o : Oper} {a : Act} {Q : Exit → Act → World → Prop} (hgd : o.guard = none) (d s : Operand)
    (ho : o.op = .call { callee := .builtin .copy, args := #[d, s], argTypes := #[22, 22] }) (dp sp : Option Addr) (dLen dCap sLen sCap : Nat) (hd : a.eval d = .slice dp dLen dCap) (hs : a.eval s = .slice sp sLen sCap)
    (g off : Nat) (cur : List Value) (hg : w.heap[g]? = some (.cells cur.toArray 25 (0, 0))) (cs : List Value) (hn : cs.length = Nat.min sLen dLen * 2)
    (hpos : 0 < cs.length → dp = some ⟨g, off, none⟩ ∧ ∃ ad, sp = some ad ∧ ∀ j v, cs[j]? = some v → w.cell? (ad.add j) = some v)
    (hfit : off + cs.length ≤ cur.length) (h1 : ∀ v ∈ cs, v.oneCell' = true)
    (h : ∀ w', Hid (w'.heap[g]? = some (.cells (splice cur off cs).toArray 25 (0, 0))) → Hid (w.grownBy w' (some g)) → wpList Try.prog ops Q rest (a.put o.dst (goInt (Nat.min sLen dLen))) w') :
    wpList Try.prog ops Q (o :: rest) a w := by
  obtain ⟨w', hrun, h2, h3⟩ := run_copy2 w o.type dp sp dLen dCap sLen sCap g off cur hg cs hn hpos hfit h1
  refine wpList_plain hgd fun K hK => ?_
  unfold Oper.wp
  simp [execOp, ho, resolve, invoke, builtin, hd, hs, hrun, Result.andThen]
  exact hK _ _ (h w' h2 h3)

theorem step_copy2 {ops : Array Oper} {o : Oper} {a : Act} {w : World} {K : Act → World → Prop} {Q : Exit → Act → World → Prop} {E : Prop} (hgd : o.guard = none) (d s : Operand)
    (ho : o.op = .call { callee := .builtin .copy, args := #[d, s], argTypes := #[22, 22] }) (dp sp : Option Addr) (dLen dCap sLen sCap : Nat) (hd : a.eval d = .slice dp dLen dCap) (hs : a.eval s = .slice sp sLen sCap)
    (g off : Nat) (cur : List Value) (hg : w.heap[g]? = some (.cells cur.toArray 25 (0, 0))) (cs : List Value) (hn : cs.length = Nat.min sLen dLen * 2)
    (hpos : 0 < cs.length → dp = some ⟨g, off, none⟩ ∧ ∃ ad, sp = some ad ∧ ∀ j v, cs[j]? = some v → w.cell? (ad.add j) = some v)
    (hfit : off + cs.length ≤ cur.length) (h1 : ∀ v ∈ cs, v.oneCell' = true)
    (h : ∀ w', Hid (w'.heap[g]? = some (.cells (splice cur off cs).toArray 25 (0, 0))) → Hid (w.grownBy w' (some g)) → K (a.put o.dst (goInt (Nat.min sLen dLen))) w') :
    if Region.wanted o (yielded ops a.tmps) = true then Oper.wp Try.prog o a w K Q else E := by
  obtain ⟨w', hrun, h2, h3⟩ := run_copy2 w o.type dp sp dLen dCap sLen sCap g off cur hg cs hn hpos hfit h1
  have hw : Region.wanted o (yielded ops a.tmps) = true := by simp [Region.wanted, hgd]
  rw [if_pos hw]
  unfold Oper.wp
  simp [execOp, ho, resolve, invoke, builtin, hd, hs, hrun, Result.andThen]
  exact h w' h2 h3

/-- 'copy' as one step of a region that draws, its run known by an equation. -/
theorem step_copy_eq {ops : Array Oper} {o : Oper} {a : Act} {w : World} {K : Act → World → Prop} {Q : Exit → Act → World → Prop} {E : Prop} (hgd : o.guard = none) (d s : Operand)
    (ho : o.op = .call { callee := .builtin .copy, args := #[d, s], argTypes := #[22, 22] }) (hty : o.type = 3) (v u : Value) (hd : a.eval d = v) (hs : a.eval s = u) {v' : Value} {w' : World}
    (hr : (Builtin.copy_ #[22, 22] 3 #[v, u]).run Try.prog w = .ok v' w') (h : K (a.put o.dst v') w') :
    if Region.wanted o (yielded ops a.tmps) = true then Oper.wp Try.prog o a w K Q else E := by
  have hw : Region.wanted o (yielded ops a.tmps) = true := by simp [Region.wanted, hgd]
  rw [if_pos hw]
  rw [← hty] at hr
  unfold Oper.wp
  simp [execOp, ho, resolve, invoke, builtin, hd, hs, hr, Result.andThen]
  exact h

theorem wpList_room2 {w : World} {ops : Array Oper} {rest : List Oper} {o : Oper} {a : Act} {Q : Exit → Act → World → Prop} (hgd : o.guard = none) (d s : Operand)
    (ho : o.op = .call { callee := .builtin .append, args := #[d, s], argTypes := #[22, 22] }) (g sLen sCap : Nat) (hd : a.eval d = .slice (some ⟨g, 0, none⟩) sLen sCap)
    (cur : List Value) (hg : w.heap[g]? = some (.cells cur.toArray 25 (0, 0))) (ad : Addr) (m c : Nat) (hs : a.eval s = .slice (some ad) m c) (news : List Value) (hl : news.length = m * 2)
    (hnews : ∀ j u, news[j]? = some u → w.cell? (ad.add j) = some u) (h1 : ∀ u ∈ news, u.oneCell' = true) (hroom : sLen + m ≤ sCap) (hfit : sLen * 2 + news.length ≤ cur.length)
    (h : ∀ w', Hid (w'.heap[g]? = some (.cells (splice cur (sLen * 2) news).toArray 25 (0, 0))) → Hid (w.grownBy w' (some g)) → wpList Try.prog ops Q rest (a.put o.dst (.slice (some ⟨g, 0, none⟩) (sLen + m) sCap)) w') :
    wpList Try.prog ops Q (o :: rest) a w := by
  obtain ⟨w', hrun, h2, h3⟩ := run_room2 w o.type g sLen sCap cur hg ad m c news hl hnews h1 hroom hfit
  refine wpList_plain hgd fun K hK => ?_
  unfold Oper.wp
  simp [execOp, ho, resolve, invoke, builtin, hd, hs, hrun, Result.andThen]
  exact hK _ _ (h w' h2 h3)

theorem wpList_grow2 {w : World} {ops : Array Oper} {rest : List Oper} {o : Oper} {a : Act} {Q : Exit → Act → World → Prop} (hgd : o.guard = none) (d s : Operand)
    (ho : o.op = .call { callee := .builtin .append, args := #[d, s], argTypes := #[22, 22] }) (b : Addr) (sLen sCap : Nat) (hd : a.eval d = .slice (some b) sLen sCap)
    (olds : List Value) (hlo : olds.length = sLen * 2) (holds : ∀ j v, olds[j]? = some v → w.cell? (b.add j) = some v)
    (ad : Addr) (m c : Nat) (hs : a.eval s = .slice (some ad) m c) (news : List Value) (hl : news.length = m * 2)
    (hnews : ∀ j u, news[j]? = some u → w.cell? (ad.add j) = some u) (hg : sCap < sLen + m) (hbytes : (sLen + m) * 16 ≤ 140737488355328)
    (h : ∀ w' cap' tail, Hid (w'.heap[w.heap.size]? = some (.cells (olds ++ news ++ tail).toArray 25 (0, 0))) → sLen + m ≤ cap' → cap' ≤ maxLen → Hid ((olds ++ news ++ tail).length = cap' * 2) → Hid (w.grownBy w' none) →
      wpList Try.prog ops Q rest (a.put o.dst (.slice (some ⟨w.heap.size, 0, none⟩) (sLen + m) cap')) w') :
    wpList Try.prog ops Q (o :: rest) a w := by
  obtain ⟨w', cap', tail, hrun, h2, h3, h4, h5, h6⟩ := run_grow2 w o.type b sLen sCap olds hlo holds ad m c news hl hnews hg hbytes
  refine wpList_plain hgd fun K hK => ?_
  unfold Oper.wp
  simp [execOp, ho, resolve, invoke, builtin, hd, hs, hrun, Result.andThen]
  exact hK _ _ (h w' cap' tail h2 h3 h4 h5 h6)

theorem wpList_nil2 {w : World} {ops : Array Oper} {rest : List Oper} {o : Oper} {a : Act} {Q : Exit → Act → World → Prop} (hgd : o.guard = none) (d s : Operand)
    (ho : o.op = .call { callee := .builtin .append, args := #[d, s], argTypes := #[22, 22] }) (hd : a.eval d = .slice none 0 0)
    (ad : Addr) (m c : Nat) (hs : a.eval s = .slice (some ad) m c) (news : List Value) (h0 : 0 < m) (hl : news.length = m * 2)
    (hnews : ∀ j u, news[j]? = some u → w.cell? (ad.add j) = some u) (hbytes : m * 16 ≤ 140737488355328)
    (h : ∀ w' cap' tail, Hid (w'.heap[w.heap.size]? = some (.cells (news ++ tail).toArray 25 (0, 0))) → m ≤ cap' → cap' ≤ maxLen → Hid ((news ++ tail).length = cap' * 2) → Hid (w.grownBy w' none) →
      wpList Try.prog ops Q rest (a.put o.dst (.slice (some ⟨w.heap.size, 0, none⟩) m cap')) w') :
    wpList Try.prog ops Q (o :: rest) a w := by
  obtain ⟨w', cap', tail, hrun, h2, h3, h4, h5, h6⟩ := run_nil2 w o.type ad m c news h0 hl hnews hbytes
  refine wpList_plain hgd fun K hK => ?_
  unfold Oper.wp
  simp [execOp, ho, resolve, invoke, builtin, hd, hs, hrun, Result.andThen]
  exact hK _ _ (h w' cap' tail h2 h3 h4 h5 h6)

theorem wpList_zeros2 {w : World} {ops : Array Oper} {rest : List Oper} {o : Oper} {a : Act} {Q : Exit → Act → World → Prop} (hgd : o.guard = none) (d s : Operand)
    (ho : o.op = .call { callee := .builtin .append, args := #[d, s], argTypes := #[22, 3] }) (b : Addr) (sLen sCap : Nat) (hd : a.eval d = .slice (some b) sLen sCap)
    (olds : List Value) (hlo : olds.length = sLen * 2) (holds : ∀ j v, olds[j]? = some v → w.cell? (b.add j) = some v)
    (z : Int) (k : Nat) (hs : a.eval s = .int .i64 z) (hz : z = (k : Int)) (h0 : 0 < k) (hg : sCap < sLen + k) (hbytes : (sLen + k) * 16 ≤ 140737488355328) (N : Nat) (hN : sLen + k = N)
    (h : ∀ w' cap' tail, Hid (w'.heap[w.heap.size]? = some (.cells (olds ++ zeros k ++ tail).toArray 25 (0, 0))) → N ≤ cap' → cap' ≤ maxLen → Hid ((olds ++ zeros k ++ tail).length = cap' * 2) → Hid (w.grownBy w' none) →
      wpList Try.prog ops Q rest (a.put o.dst (.slice (some ⟨w.heap.size, 0, none⟩) N cap')) w') :
    wpList Try.prog ops Q (o :: rest) a w := by
  subst hz
  subst hN
  obtain ⟨w', cap', tail, hrun, h2, h3, h4, h5, h6⟩ := run_zeros2 w o.type b sLen sCap olds hlo holds k h0 hg hbytes
  refine wpList_plain hgd fun K hK => ?_
  unfold Oper.wp
  simp [execOp, ho, resolve, invoke, builtin, hd, hs, hrun, Result.andThen]
  exact hK _ _ (h w' cap' tail h2 h3 h4 h5 h6)

/-- A splice, place by place. -/
theorem get_splice {α : Type} (L : List α) (off : Nat) (cs : List α) (h : off + cs.length ≤ L.length) (j : Nat) : (splice L off cs)[j]? = if j < off then L[j]? else if j < off + cs.length then cs[j - off]? else L[j]? := by
  unfold splice
  rw [List.getElem?_append, List.length_take, show min off L.length = off by omega]
  by_cases h1 : j < off
  · rw [if_pos h1, if_pos h1, List.getElem?_take, if_pos h1]
  · rw [if_neg h1, if_neg h1, List.getElem?_append]
    by_cases h2 : j < off + cs.length
    · rw [if_pos (by omega), if_pos h2]
    · rw [if_neg (by omega), if_neg h2, List.getElem?_drop]
      congr 1
      omega
theorem splice_grown {α : Type} (A Z T N D : List α) (hZ : Z.length = N.length + D.length) (a b : Nat) (ha : a = A.length) (hb : b = A.length + N.length) :
    splice (splice (A ++ Z ++ T) a N) b D = A ++ N ++ D ++ T := by
  subst ha; subst hb
  have hl : (splice (A ++ Z ++ T) A.length N).length = (A ++ Z ++ T).length := length_splice _ _ _ (by simp; omega)
  apply List.ext_getElem?
  intro j
  rw [get_splice _ _ _ (by rw [hl]; simp; omega), get_splice _ _ _ (by simp; omega)]
  by_cases h1 : j < A.length
  · rw [if_pos (by omega), if_pos h1, List.append_assoc, List.append_assoc, List.append_assoc, List.getElem?_append_left h1, List.getElem?_append_left h1]
  · by_cases h2 : j < A.length + N.length
    · rw [if_pos h2, if_neg h1, if_pos h2, List.append_assoc, List.append_assoc, List.getElem?_append_right (by omega), List.getElem?_append_left (by omega)]
    · rw [if_neg h2]
      by_cases h3 : j < A.length + N.length + D.length
      · rw [if_pos h3, List.append_assoc (A ++ N), List.getElem?_append_right (by simp; omega), List.getElem?_append_left (by simp; omega)]
        simp
      · rw [if_neg h3, if_neg h1, if_neg h2, List.getElem?_append_right (by simp; omega), List.getElem?_append_right (by simp; omega)]
        simp [hZ]
/-- In place: what is behind goes up first, then the new ones go in. -/
theorem splice_shift {α : Type} (C N D : List α) (a b n : Nat) (hb : b = a + N.length) (hn : n = b + D.length) (hC : n ≤ C.length) :
    (splice (splice C b D) a N).take n = C.take a ++ N ++ D := by
  subst hb; subst hn
  have hl : (splice C (a + N.length) D).length = C.length := length_splice _ _ _ (by omega)
  apply List.ext_getElem?
  intro j
  rw [List.getElem?_take]
  by_cases hj : j < a + N.length + D.length
  · rw [if_pos hj, get_splice _ _ _ (by rw [hl]; omega), get_splice _ _ _ (by omega)]
    by_cases h1 : j < a
    · rw [if_pos h1, if_pos (by omega), List.append_assoc, List.getElem?_append_left (by simp; omega), List.getElem?_take, if_pos h1]
    · rw [if_neg h1]
      by_cases h2 : j < a + N.length
      · rw [if_pos h2, List.append_assoc, List.getElem?_append_right (by simp; omega), List.getElem?_append_left (by simp; omega)]
        simp only [List.length_take]; congr 1; omega
      · rw [if_neg h2, if_neg h2, if_pos hj, List.getElem?_append_right (by simp; omega)]
        simp only [List.length_append, List.length_take]; congr 1; omega
  · rw [if_neg hj, List.getElem?_eq_none (by simp; omega)]
/-- In place: the new ones go in first, then what is behind comes down. -/
theorem splice_close {α : Type} (C N D : List α) (a b n : Nat) (hb : b = a + N.length) (hn : n = b + D.length) (hC : n ≤ C.length) :
    (splice (splice C a N) b D).take n = C.take a ++ N ++ D := by
  subst hb; subst hn
  have hl : (splice C a N).length = C.length := length_splice _ _ _ (by omega)
  apply List.ext_getElem?
  intro j
  rw [List.getElem?_take]
  by_cases hj : j < a + N.length + D.length
  · rw [if_pos hj, get_splice _ _ _ (by rw [hl]; omega), get_splice _ _ _ (by omega)]
    by_cases h1 : j < a
    · rw [if_pos (by omega), if_pos h1, List.append_assoc, List.getElem?_append_left (by simp; omega), List.getElem?_take, if_pos h1]
    · by_cases h2 : j < a + N.length
      · rw [if_pos h2, if_neg h1, if_pos h2, List.append_assoc, List.getElem?_append_right (by simp; omega), List.getElem?_append_left (by simp; omega)]
        simp only [List.length_take]; congr 1; omega
      · rw [if_neg h2, if_pos hj, List.getElem?_append_right (by simp; omega)]
        simp only [List.length_append, List.length_take]; congr 1; omega
  · rw [if_neg hj, List.getElem?_eq_none (by simp; omega)]

end Go.Proofs.Ytjbjaklbckhodab
