import Derived.Test.YtfhjiggaacgncaaDoorTxA
import Derived.Laws.OwnMore
import Derived.Deep.RegionHeld3
namespace Go.Proofs.YtfhjiggaacgncaaDoor.Tx
open Go.RowKit Go.Maps Go.Sort
set_option maxRecDepth 100000

theorem below_grown {w w' : World} (h : Below w.heap.size w w') : w.grownBy w' none := ⟨h.os, h.tape, h.output, h.size, fun k hk _ => h.block k hk⟩
theorem grown_below {w w' : World} (h : w.grownBy w' none) : Below w.heap.size w w' := ⟨h.os, h.tape, h.output, h.size, fun k hk => h.block k hk (by simp)⟩
theorem own_kept {w w' : World} {base : Nat} {e : TypeId} {size : Nat} {v : Value} {n : Nat} {xs : List Value} (h : w.ownsRow base e size v n xs) {row : Option Nat} (hg : w.grownBy w' row) (hne : ∀ g, v.ownBlock = some g → row ≠ some g) : w'.ownsRow base e size v n xs := by
  refine ⟨h.1, ?_⟩
  rcases h.2 with ⟨rfl, h0⟩ | ⟨g, cap, cur, rfl, h1, h2, h3⟩
  · exact .inl ⟨rfl, h0⟩
  · refine .inr ⟨g, cap, cur, rfl, h1, ?_, h3⟩
    exact (hg.block g (Array.getElem?_eq_some_iff.1 h2).1 (fun e => hne g rfl e.symm)).trans h2
/-- The book of lists: those handed out, and what they were. -/
structure Book (B : Nat) (w : World) (b : Nat) (lv wv : Value) (X Y : List Value) : Prop where
  head : w.heap[b]? = some (.cells #[lv, wv] 67 (0, 0))
  l : w.ownsRow B 30 1 lv X.length X
  s : w.ownsRow B 30 1 wv Y.length Y
  ne : ∀ g, lv.ownBlock = some g → wv.ownBlock ≠ some g
theorem row_type {w : World} {B : Nat} {e : TypeId} {size n g : Nat} {v : Value} {xs : List Value} (h : w.ownsRow B e size v n xs) (hv : v.ownBlock = some g) : ∃ cs, w.heap[g]? = some (.cells cs e (0, 0)) := by
  rcases h.2 with ⟨rfl, _⟩ | ⟨g', cap, cur, rfl, _, hg, _⟩
  · simp [Value.ownBlock] at hv
  · simp [Value.ownBlock] at hv
    subst hv
    exact ⟨_, hg⟩
theorem row_slice {w : World} {B : Nat} {e : TypeId} {size n : Nat} {v : Value} {xs : List Value} (h : w.ownsRow B e size v n xs) : ∃ av c, v = .slice av n c := by
  rcases h.2 with ⟨rfl, h0⟩ | ⟨g', cap, cur, rfl, _⟩
  · exact ⟨none, 0, by rw [h0]⟩
  · exact ⟨_, _, rfl⟩
theorem Book.apart {B : Nat} {w : World} {b : Nat} {lv wv : Value} {X Y : List Value} (h : Book B w b lv wv X Y) : lv.ownBlock ≠ some b ∧ wv.ownBlock ≠ some b := by
  constructor
  · intro e
    obtain ⟨cs, hc⟩ := row_type h.l e
    rw [h.head] at hc
    simp at hc
  · intro e
    obtain ⟨cs, hc⟩ := row_type h.s e
    rw [h.head] at hc
    simp at hc
/-- The mark of the k-th place of the i-th text. -/
def markOf (i k : Nat) : BitVec 8 := BitVec.ofInt 8 (37 * (i : Int) + 11 * (k : Int) + 1)
set_option maxHeartbeats 1000000 in
theorem mark_any (w : World) (i k : Nat) (hi : i ≤ 140737488355328) (hk : k ≤ 140737488355428) (x y : Int) (hx : x = i) (hy : y = k) :
    Calls Tryd.prog 60 #[.int .i64 x, .int .i64 y] w fun e w' => e = .returned (.int .u8 (ub (markOf i k))) ∧ Below w.heap.size w w' := by
  subst hx hy
  have h1 : IntKind.i64.wrap (37 * (i : Int)) = 37 * i := by rw [IntKind.wrap_i64]; omega
  have h2 : IntKind.i64.wrap (11 * (k : Int)) = 11 * k := by rw [IntKind.wrap_i64]; omega
  have h3 : IntKind.i64.wrap (37 * (i : Int) + 11 * k) = 37 * i + 11 * k := by rw [IntKind.wrap_i64]; omega
  have h4 : IntKind.i64.wrap (37 * (i : Int) + 11 * k + 1) = 37 * i + 11 * k + 1 := by rw [IntKind.wrap_i64]; omega
  have h5 : IntKind.u8.wrap (37 * (i : Int) + 11 * k + 1) = ub (markOf i k) := by rw [ub_wrap]; rfl
  generalize ub (markOf i k) = m at *
  go_enter Tryd.func60, Tryd.ntmps60
  go_wp2_with fail
  go_ret
  exact ⟨rfl, Below.refl _ _⟩
/-- A list whose first k places are marked. -/
def fillL (i : Nat) (L : List (BitVec 8)) (k : Nat) : List (BitVec 8) := (List.range k).map (markOf i) ++ L.drop k
theorem fillL_zero (i : Nat) (L : List (BitVec 8)) : fillL i L 0 = L := by simp [fillL]
theorem fillL_len (i : Nat) (L : List (BitVec 8)) (k : Nat) (hk : k ≤ L.length) : (fillL i L k).length = L.length := by
  unfold fillL
  simp
  omega
theorem fillL_set (i : Nat) (L : List (BitVec 8)) (k : Nat) (hk : k < L.length) : (fillL i L k).set k (markOf i k) = fillL i L (k + 1) := by
  unfold fillL
  rw [List.set_append_right _ _ (by simp), List.length_map, List.length_range, Nat.sub_self, List.drop_eq_getElem_cons hk, List.set_cons_zero, List.range_succ, List.map_append, List.append_assoc]
  rfl
/-- A marked list with n more behind it. -/
def moreL (i m n : Nat) : List (BitVec 8) := (List.range m).map (markOf i) ++ (List.range n).map fun k => markOf (i + 7) (k + 3)
theorem fillL_all (i : Nat) (L : List (BitVec 8)) : fillL i L L.length = moreL i L.length 0 := by simp [fillL, moreL]
theorem moreL_snoc (i m n : Nat) : moreL i m n ++ [markOf (i + 7) (n + 3)] = moreL i m (n + 1) := by
  unfold moreL
  rw [List.append_assoc, List.range_succ, List.map_append]
  rfl
theorem moreL_len (i m n : Nat) : (moreL i m n).length = m + n := by simp [moreL]
theorem moreL_low (i m n k : Nat) (hk : k < m) : (moreL i m n)[k]? = some (markOf i k) := by
  unfold moreL
  rw [List.getElem?_append_left (by simpa using hk)]
  simp [hk]
theorem moreL_high (i m n k : Nat) (hk : m ≤ k) (hn : k < m + n) : (moreL i m n)[k]? = some (markOf (i + 7) (k - m + 3)) := by
  unfold moreL
  have hd : k - m < n := by omega
  rw [List.getElem?_append_right (by simpa using hk)]
  simp [hd]

/-- Lists in rows of their own, each in another one. -/
structure LA (B : Nat) (w : World) (vs : List Value) (C : Nat → List (BitVec 8)) : Prop where
  row : ∀ j (h : j < vs.length), w.ownsRow B 5 1 vs[j] (C j).length (bcells (C j))
  apart : ∀ i j (hi : i < vs.length) (hj : j < vs.length), i ≠ j → ∀ x, vs[i].ownBlock = some x → vs[j].ownBlock ≠ some x
theorem LA.kept {B : Nat} {w w' : World} {vs : List Value} {C : Nat → List (BitVec 8)} (h : LA B w vs C) (hb : Below w.heap.size w w') : LA B w' vs C := ⟨fun j hj => own_below (h.row j hj) hb, h.apart⟩
/-- A row that is no list of ranges stays where one of them is turned. -/
theorem row_far {B : Nat} {w : World} {n g : Nat} {v : Value} {xs : List Value} (h : w.ownsRow B 5 1 v n xs) (hg : v.ownBlock = some g) {k : Nat} {cs : Array Value} {t : TypeId} (hk : w.heap[k]? = some (.cells cs t (0, 0))) (ht : t ≠ 5) : k ≠ g := by
  rintro rfl
  obtain ⟨c', hc⟩ := row_type h hg
  rw [hk] at hc
  simp at hc
  exact ht hc.2
/-- One member of one list is written. -/
theorem LA.put {B : Nat} {w : World} {vs : List Value} {C : Nat → List (BitVec 8)} (h : LA B w vs C) {k : Nat} (hk : k < vs.length) {g cap : Nat} (hv : vs[k] = .slice (some ⟨g, 0, none⟩) (C k).length cap) {kk : Nat} (hkk : kk < (C k).length) (z : BitVec 8) :
    LA B (w.setCell ⟨g, kk, none⟩ (.int .u8 (ub z))) vs (fun j => if j = k then (C k).set kk z else C j) ∧ w.grownBy (w.setCell ⟨g, kk, none⟩ (.int .u8 (ub z))) (some g) := by
  have hr := h.row k hk
  rw [hv] at hr
  obtain ⟨h2, hg⟩ := hr.stored kk (.int .u8 (ub z))
  rw [bcells_set] at h2
  refine ⟨⟨fun j hj => ?_, h.apart⟩, hg⟩
  by_cases e : j = k
  · subst e
    rw [if_pos rfl, List.length_set, hv]
    exact h2
  · rw [if_neg e]
    refine own_kept (h.row j hj) hg (fun x hx e' => ?_)
    simp only [Option.some.injEq] at e'
    exact h.apart k j hk hj (Ne.symm e) x (by rw [hv, ← e']; rfl) hx
/-- What the book's Good leaves: only the lists' own rows are turned. -/
structure Gone (w w' : World) (vs : List Value) : Prop where
  os : w'.os = w.os
  tape : w'.tape = w.tape
  output : w'.output = w.output
  size : w.heap.size ≤ w'.heap.size
  block : ∀ k, k < w.heap.size → (∀ v ∈ vs, v.ownBlock ≠ some k) → w'.heap[k]? = w.heap[k]?
theorem Gone.refl (w : World) (vs : List Value) : Gone w w vs := ⟨rfl, rfl, rfl, Nat.le_refl _, fun _ _ _ => rfl⟩
theorem Gone.below {w w' w'' : World} {vs : List Value} (h : Gone w w' vs) (hb : Below w'.heap.size w' w'') : Gone w w'' vs :=
  ⟨hb.os.trans h.os, hb.tape.trans h.tape, hb.output.trans h.output, Nat.le_trans h.size hb.size, fun k hk hv => (hb.block k (Nat.lt_of_lt_of_le hk h.size)).trans (h.block k hk hv)⟩
theorem Gone.grown {w w' w'' : World} {vs : List Value} {row : Option Nat} (h : Gone w w' vs) (hg : w'.grownBy w'' row) (hr : ∀ g, row = some g → w.heap.size ≤ g ∨ ∃ v ∈ vs, v.ownBlock = some g) : Gone w w'' vs :=
  ⟨hg.os.trans h.os, hg.tape.trans h.tape, hg.output.trans h.output, Nat.le_trans h.size hg.size, fun k hk hv => by
    rw [hg.block k (Nat.lt_of_lt_of_le hk h.size) (fun e => by
      rcases hr k e.symm with h1 | ⟨v, hm, hv'⟩
      · omega
      · exact hv v hm hv'), h.block k hk hv]⟩
/-- What is of another type than ranges stays. -/
theorem Gone.far {B : Nat} {w w' : World} {vs : List Value} {C : Nat → List (BitVec 8)} (H : LA B w vs C) (h : Gone w w' vs) {k : Nat} {cs : Array Value} {t : TypeId} (hk : w.heap[k]? = some (.cells cs t (0, 0))) (ht : t ≠ 5) : w'.heap[k]? = some (.cells cs t (0, 0)) := by
  refine (h.block k (Array.getElem?_eq_some_iff.1 hk).1 (fun v hv e => ?_)).trans hk
  obtain ⟨i, hi, rfl⟩ := List.getElem_of_mem hv
  exact row_far (H.row i hi) e hk ht rfl
theorem Gone.book {B B' : Nat} {w w' : World} {vs vs' Y : List Value} {C : Nat → List (BitVec 8)} {b : Nat} {lv wv : Value} (H : LA B w vs C) (h : Gone w w' vs) (K : Book B' w b lv wv vs' Y) : Book B' w' b lv wv vs' Y := by
  have hrow : ∀ {v : Value} {n : Nat} {xs : List Value}, w.ownsRow B' 30 1 v n xs → w'.ownsRow B' 30 1 v n xs := by
    intro v n xs ho
    refine ⟨ho.1, ho.2.imp id ?_⟩
    rintro ⟨g, cap, cur, h1, h2, h3, h4⟩
    exact ⟨g, cap, cur, h1, h2, h.far H h3 (by decide), h4⟩
  exact ⟨h.far H K.head (by decide), hrow K.l, hrow K.s, K.ne⟩
end Go.Proofs.YtfhjiggaacgncaaDoor.Tx
