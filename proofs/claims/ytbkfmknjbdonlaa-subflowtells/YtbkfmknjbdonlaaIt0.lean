import Derived.Test.YtbkfmknjbdonlaaRtBase
import Derived.Maps.Own
import Derived.Maps.OwnOps
import Derived.Maps.OwnSet
import Derived.Maps.RangeWalk
import Derived.Maps.Views
namespace Go.Proofs.Ytbkfmknjbdonlaa
open Go.RowKit Go.Maps
set_option maxRecDepth 100000

/-- An item: its number, kind, offset, length, and when it was sent. -/
structure It where
  num : Int
  kind : Int
  off : Int
  len : Int
  at_ : Int
def It.cells (x : It) : List Value := [.int .u64 x.num, .int .i64 x.kind, .int .u64 x.off, .int .i64 x.len, .int .u64 x.at_]
def It.val (x : It) : Value := .agg #[.int .u64 x.num, .int .i64 x.kind, .int .u64 x.off, .int .i64 x.len, .int .u64 x.at_]
theorem It.val_inj {x y : It} (h : x.val = y.val) : x = y := by
  cases x; cases y
  simp [It.val] at h
  simp [h]
abbrev DM := DataW It
abbrev kw (n : Int) : Lit := .int .u64 n
def readIt (v : Value) : Option (DM × List MemPlace) :=
  match v with
  | .agg c => (match c.toList with
    | [.int .u64 a, .int .i64 b, .int .u64 c, .int .i64 d, .int .u64 e] => some (.held ⟨a, b, c, d, e⟩, [])
    | _ => none)
  | _ => none
theorem readIt_val (x : It) : readIt x.val = some (.held x, []) := rfl
theorem readIt_inv {v : Value} {y : DM × List MemPlace} (h : readIt v = some y) : ∃ x : It, v = x.val ∧ y = (.held x, []) := by
  unfold readIt at h
  split at h
  · rename_i c
    split at h
    · rename_i hc
      simp only [Option.some.injEq] at h
      refine ⟨_, ?_, h.symm⟩
      unfold It.val
      congr 1
      apply Array.toList_inj.1
      rw [hc]
    · cases h
  · cases h
/-- What the map of what is under way reads as. -/
def UD (U : List It) : DM := .map (U.map fun x => (kw x.num, .held x))
/-- In the order of numbers, none twice. -/
def Rising (U : List It) : Prop := U.Pairwise (fun a b => a.num < b.num)
theorem kw_same (a b : Int) : (kw a).sameKey (kw b) = decide (a = b) := by simp [Lit.sameKey]
theorem insert_last (y : It) : ∀ (U : List It), (∀ x ∈ U, x.num < y.num) → DataW.insert (kw y.num, (.held y : DM)) (U.map fun x => (kw x.num, .held x)) = (U ++ [y]).map fun x => (kw x.num, .held x)
  | [], _ => rfl
  | a :: r, h => by
    have h1 := h a (by simp)
    have h2 := insert_last y r (fun x hx => h x (by simp [hx]))
    simp only [List.map_cons, List.cons_append, DataW.insert]
    rw [if_neg (by simp [Lit.before]; omega), h2]
theorem UD_put {U : List It} {y : It} (h : ∀ x ∈ U, x.num < y.num) : (UD U).put (kw y.num) (.held y) = UD (U ++ [y]) := by
  have e : (U.map fun x => (kw x.num, (.held x : DM))).filter (fun p => !p.1.sameKey (kw y.num)) = U.map fun x => (kw x.num, .held x) := by
    rw [List.filter_eq_self]
    intro p hp
    obtain ⟨x, hx, rfl⟩ := List.mem_map.1 hp
    have := h x hx
    simp only [kw_same]
    simp
    omega
  unfold UD DataW.put
  simp only
  rw [e, insert_last y U h]
theorem UD_del (U : List It) (n : Int) : (UD U).del (kw n) = UD (U.filter fun x => decide (x.num ≠ n)) := by
  unfold UD DataW.del
  simp only
  rw [List.filter_map]
  congr 2
  apply List.filter_congr
  intro x _
  simp [kw_same]
theorem UD_size (U : List It) : Maps.size (UD U) = U.length := by simp [UD, Maps.size]
theorem UD_has (U : List It) (n : Int) : Maps.has (UD U) (kw n) = U.any (fun x => decide (x.num = n)) := by
  unfold UD
  rw [has_eq, List.any_map]
  congr 1
  funext x
  simp [kw_same]
theorem UD_has_mem {U : List It} {x : It} (h : x ∈ U) : Maps.has (UD U) (kw x.num) = true := by
  rw [UD_has, List.any_eq_true]
  exact ⟨x, h, by simp⟩
theorem UD_at {U : List It} {n : Int} {c : It} (h : ∀ zd, (UD U).atKey (kw n) zd = .held c) : c ∈ U ∧ c.num = n := by
  have h1 := h .nil
  unfold UD DataW.atKey at h1
  simp only at h1
  split at h1
  · rename_i p hp
    have hm := List.mem_of_find?_eq_some hp
    have hs := List.find?_some hp
    obtain ⟨x, hx, rfl⟩ := List.mem_map.1 hm
    simp only [kw_same, decide_eq_true_eq] at hs
    simp only [DataW.held.injEq] at h1
    subst h1
    exact ⟨hx, hs⟩
  · cases h1
theorem Rising.filter {U : List It} (h : Rising U) (p : It → Bool) : Rising (U.filter p) := List.Pairwise.filter p h
theorem Rising.snoc {U : List It} {y : It} (h : Rising U) (hy : ∀ x ∈ U, x.num < y.num) : Rising (U ++ [y]) := by
  unfold Rising
  rw [List.pairwise_append]
  exact ⟨h, by simp, fun a ha b hb => by rw [List.mem_singleton.1 hb]; exact hy a ha⟩
theorem Rising.inj : ∀ {U : List It}, Rising U → ∀ {x y : It}, x ∈ U → y ∈ U → x.num = y.num → x = y
  | [], _, _, _, hx, _, _ => by simp at hx
  | a :: r, h, x, y, hx, hy, e => by
    obtain ⟨h1, h2⟩ := List.pairwise_cons.1 h
    rcases List.mem_cons.1 hx with ex | hx' <;> rcases List.mem_cons.1 hy with ey | hy'
    · rw [ex, ey]
    · have := h1 y hy'; rw [ex] at e; omega
    · have := h1 x hx'; rw [ey] at e; omega
    · exact Rising.inj h2 hx' hy' e
/-- Two lists that rise and have the same members are one. -/
theorem Rising.ext : ∀ {A B : List It}, Rising A → Rising B → (∀ x, x ∈ A ↔ x ∈ B) → A = B
  | [], [], _, _, _ => rfl
  | [], b :: B, _, _, h => by have := (h b).2 (by simp); simp at this
  | a :: A, [], _, _, h => by have := (h a).1 (by simp); simp at this
  | a :: A, b :: B, hA, hB, h => by
    obtain ⟨a1, a2⟩ := List.pairwise_cons.1 hA
    obtain ⟨b1, b2⟩ := List.pairwise_cons.1 hB
    have e : a = b := by
      rcases List.mem_cons.1 ((h a).1 (by simp)) with e | e
      · exact e
      · rcases List.mem_cons.1 ((h b).2 (by simp)) with e' | e'
        · exact e'.symm
        · have := a1 b e'; have := b1 a e; omega
    subst e
    congr 1
    refine Rising.ext a2 b2 (fun x => ⟨fun hx => ?_, fun hx => ?_⟩)
    · rcases List.mem_cons.1 ((h x).1 (by simp [hx])) with e | e
      · have := a1 x hx; rw [e] at this; omega
      · exact e
    · rcases List.mem_cons.1 ((h x).2 (by simp [hx])) with e | e
      · have := b1 x hx; rw [e] at this; omega
      · exact e
/-- What has been gathered of a map's entries while some are still to come. -/
structure Gath (U : List It) (p : It → Bool) (left : Lit → Bool) (acc : List It) : Prop where
  mem : ∀ x, x ∈ acc ↔ x ∈ U ∧ p x = true ∧ left (kw x.num) = false
  nodup : acc.Nodup
theorem Gath.start (U : List It) (p : It → Bool) : Gath U p (Maps.has (UD U)) [] :=
  ⟨fun x => ⟨fun h => by simp at h, fun ⟨h, _, hl⟩ => by rw [UD_has_mem h] at hl; cases hl⟩, List.nodup_nil⟩
theorem Gath.step {U : List It} {p : It → Bool} {left : Lit → Bool} {acc : List It} (g : Gath U p left acc) (hU : Rising U) {c : It} (hc : c ∈ U) (hl : left (kw c.num) = true) :
    Gath U p (fun z => left z && !z.sameKey (kw c.num)) (if p c = true then acc ++ [c] else acc) := by
  have key : ∀ x ∈ U, ((left (kw x.num) && !(kw x.num).sameKey (kw c.num)) = false ↔ left (kw x.num) = false ∨ x = c) := by
    intro x hx
    rw [kw_same]
    by_cases e : x = c
    · subst e; simp
    · have : x.num ≠ c.num := fun h => e (hU.inj hx hc h)
      simp [this, e]
  have hn : c ∉ acc := fun h => by rw [((g.mem c).1 h).2.2] at hl; cases hl
  constructor
  · intro x
    by_cases hp : p c = true
    · rw [if_pos hp, List.mem_append, List.mem_singleton, g.mem]
      constructor
      · rintro (⟨h1, h2, h3⟩ | rfl)
        · exact ⟨h1, h2, (key x h1).2 (.inl h3)⟩
        · exact ⟨hc, hp, (key _ hc).2 (.inr rfl)⟩
      · rintro ⟨h1, h2, h3⟩
        rcases (key x h1).1 h3 with h | h
        · exact .inl ⟨h1, h2, h⟩
        · exact .inr h
    · rw [if_neg hp, g.mem]
      constructor
      · rintro ⟨h1, h2, h3⟩
        exact ⟨h1, h2, (key x h1).2 (.inl h3)⟩
      · rintro ⟨h1, h2, h3⟩
        rcases (key x h1).1 h3 with h | h
        · exact ⟨h1, h2, h⟩
        · subst h; exact absurd h2 hp
  · by_cases hp : p c = true
    · rw [if_pos hp, List.nodup_append]
      exact ⟨g.nodup, by simp, fun a ha b hb => by rw [List.mem_singleton.1 hb]; intro e; exact hn (e ▸ ha)⟩
    · rw [if_neg hp]; exact g.nodup
/-- Behind the walk, and sorted, it is what was wanted, in the order of numbers. -/
theorem Gath.done {U : List It} {p : It → Bool} {left : Lit → Bool} {acc L : List It} (g : Gath U p left acc) (hU : Rising U) (hl : ∀ k, left k = false) (hp : L.Perm acc) (hs : L.Pairwise (fun a b => a.num ≤ b.num)) : L = U.filter p := by
  have hm : ∀ x, x ∈ L ↔ x ∈ U.filter p := fun x => by rw [hp.mem_iff, g.mem, List.mem_filter]; simp [hl]
  have hn : L.Nodup := hp.nodup_iff.2 g.nodup
  refine Rising.ext ?_ (hU.filter p) hm
  unfold Rising
  have := hs.and hn
  refine List.Pairwise.imp_of_mem ?_ this
  intro a b ha hb hab
  have h1 := (List.mem_filter.1 ((hm a).1 ha)).1
  have h2 := (List.mem_filter.1 ((hm b).1 hb)).1
  have : a.num ≠ b.num := fun e => hab.2 (hU.inj h1 h2 e)
  have := hab.1
  omega
theorem nodup_len : ∀ {acc U : List It}, acc.Nodup → (∀ x ∈ acc, x ∈ U) → acc.length ≤ U.length
  | [], _, _, _ => Nat.zero_le _
  | a :: r, U, hn, h => by
    obtain ⟨s, t, rfl⟩ := List.append_of_mem (h a (by simp))
    obtain ⟨h1, h2⟩ := List.nodup_cons.1 hn
    have := nodup_len (acc := r) (U := s ++ t) h2 (fun x hx => by
      have hx' := h x (by simp [hx])
      simp only [List.mem_append, List.mem_cons] at hx' ⊢
      rcases hx' with h3 | h3 | h3
      · exact .inl h3
      · subst h3; exact absurd hx h1
      · exact .inr h3)
    simp only [List.length_append, List.length_cons] at *
    omega
theorem Gath.length_le {U : List It} {p : It → Bool} {left : Lit → Bool} {acc : List It} (g : Gath U p left acc) : acc.length ≤ U.length :=
  nodup_len g.nodup (fun x hx => ((g.mem x).1 hx).1)
/-- What is under way behind k deletions. -/
def lessK (U L : List It) (k : Nat) : List It := U.filter fun y => !(L.take k).any (fun x => decide (x.num = y.num))
theorem lessK_zero (U L : List It) : lessK U L 0 = U := by
  unfold lessK
  rw [List.filter_eq_self]
  intro y _
  simp
theorem lessK_step (U L : List It) (k : Nat) (h : k < L.length) : (lessK U L k).filter (fun y => decide (y.num ≠ L[k].num)) = lessK U L (k + 1) := by
  unfold lessK
  rw [List.filter_filter]
  apply List.filter_congr
  intro y _
  rw [List.take_succ_eq_append_getElem h, List.any_append]
  simp only [List.any_cons, List.any_nil, Bool.or_false]
  by_cases e : y.num = L[k].num
  · simp [e]
  · have e' : ¬ L[k].num = y.num := fun h => e h.symm
    simp [e, e']
theorem lessK_done {U : List It} (hU : Rising U) (p : It → Bool) : lessK U (U.filter p) (U.filter p).length = U.filter (fun y => !p y) := by
  unfold lessK
  apply List.filter_congr
  intro y hy
  rw [List.take_length]
  congr 1
  rw [Bool.eq_iff_iff, List.any_eq_true]
  constructor
  · rintro ⟨x, hx, e⟩
    rw [List.mem_filter] at hx
    simp only [decide_eq_true_eq] at e
    rw [← hU.inj hx.1 hy e]
    exact hx.2
  · intro h
    exact ⟨y, List.mem_filter.2 ⟨hy, h⟩, by simp⟩
theorem lessK_rising {U : List It} (hU : Rising U) (L : List It) (k : Nat) : Rising (lessK U L k) := hU.filter _
end Go.Proofs.Ytbkfmknjbdonlaa
