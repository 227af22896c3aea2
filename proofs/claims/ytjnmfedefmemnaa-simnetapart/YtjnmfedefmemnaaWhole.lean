import Derived.Test.YtjnmfedefmemnaaSpoil
import Derived.Test.YtjnmfedefmemnaaDblSp3
import Derived.Test.YtjnmfedefmemnaaCount
import Derived.Test.YtjnmfedefmemnaaDrop
namespace Go.Proofs.Ytjnmfedefmemnaa
open Go.RowKit Go.Maps
set_option maxRecDepth 100000

/-- A frame that lies in a bag: its parcel, what was put, what is turned of it. -/
structure Fr where
  q : Nat
  bs : List (BitVec 8)
  T : Nat → BitVec 8
  mv : Value
def FrAt (w : World) (K : Nat) (x : Fr) : Prop := ∃ gb, Row w x.q [.slice (some ⟨gb, 0, none⟩) x.bs.length x.bs.length, x.mv] 84 ∧ Row w gb (bcells x.bs) 5 ∧ TurnAt w x.mv x.bs.length K x.T ∧ x.bs.length ≤ 140737488351232
theorem FrAt.kept {w w' : World} {K : Nat} {x : Fr} (h : FrAt w K x) (hb : Below w.heap.size w w') : FrAt w' K x := by
  obtain ⟨gb, h1, h2, h3, h4⟩ := h
  exact ⟨gb, h1.kept hb h1.lt, h2.kept hb h2.lt, h3.kept hb, h4⟩
theorem FrAt.only {S : List Nat} {w w' : World} {K : Nat} {x : Fr} (h : FrAt w K x) (ho : Only S w w') (h1 : x.q ∉ S) (h2 : ∀ y ∈ mblk x.mv, y ∉ S) (h3 : ∀ y ∈ S, ∀ cc, ¬ Row w y cc 5) : FrAt w' K x := by
  obtain ⟨gb, r1, r2, t, l⟩ := h
  refine ⟨gb, ho.row r1 h1, ho.row r2 (fun hm => h3 _ hm _ r2), ?_, l⟩
  rcases t with e | ⟨b, k, D, e, hm, hk, hI⟩
  · exact .inl e
  · exact .inr ⟨b, k, D, e, own_only hm ho (h2 b (by rw [e]; simp [mblk])), hk, hI⟩
theorem FrAt.up {w : World} {K K' : Nat} {x : Fr} (h : FrAt w K x) (hK : K ≤ K') : FrAt w K' x := by
  obtain ⟨gb, r1, r2, t, l⟩ := h
  refine ⟨gb, r1, r2, ?_, l⟩
  rcases t with e | ⟨b, k, D, e, hm, hk, hI⟩
  · exact .inl e
  · exact .inr ⟨b, k, D, e, hm, Nat.le_trans hk hK, hI⟩
/-- The blocks that a net writes. -/
inductive Owned (g n : Nat) (vs : Nat → Nat → Value) (fr : Nat → Nat → List Fr) (x : Nat) : Prop
  | roads (h : x = g)
  | bag (k d : Nat) (hk : k < n) (hd : d < 2) (h : x ∈ blk (vs k d))
  | parcel (k d : Nat) (hk : k < n) (hd : d < 2) (y : Fr) (hy : y ∈ fr k d) (h : x = y.q)
  | map (k d : Nat) (hk : k < n) (hd : d < 2) (y : Fr) (hy : y ∈ fr k d) (h : x ∈ mblk y.mv)
/-- A whole net. -/
structure NetG (B : Nat) (w : World) (p g n : Nat) (c : List Value) (vs : Nat → Nat → Value) (fr : Nat → Nat → List Fr) (K : Nat) : Prop where
  net : Row w p [.slice (some ⟨g, 0, none⟩) n n] 52
  row : Row w g c 67
  len : c.length = 16 * n
  one : ∀ v ∈ c, v.oneCell' = true
  up : ∀ k, k < n → ∃ u, c[k * 16]? = some (.bool u)
  cap : ∀ k, k < n → ∃ C : Int, c[k * 16 + 1]? = some (.int .i64 C) ∧ 1 ≤ C ∧ C ≤ 1073741824 ∧ ∀ d, d < 2 → ((fr k d).length : Int) ≤ C
  cnt : ∀ k i, k < n → 4 ≤ i → i < 14 → ∃ P, c[k * 16 + i]? = some (.int .u64 P)
  hbag : ∀ k d, k < n → d < 2 → c[k * 16 + 14 + d]? = some (vs k d)
  bag : ∀ k d, k < n → d < 2 → BagAt w (vs k d) ((fr k d).map Fr.q)
  frs : ∀ k d, k < n → d < 2 → ∀ x ∈ fr k d, FrAt w K x
  bp : B ≤ p
  ge : ∀ x, Owned g n vs fr x → B ≤ x
  sepb : ∀ k d k' d', k < n → d < 2 → k' < n → d' < 2 → ¬ (k' = k ∧ d' = d) → ∀ x ∈ blk (vs k d), x ∉ blk (vs k' d')
  sepq : ∀ (k d j k' d' j' : Nat) (x x' : Fr), k < n → d < 2 → k' < n → d' < 2 → ¬ (k' = k ∧ d' = d ∧ j' = j) → (fr k d)[j]? = some x → (fr k' d')[j']? = some x' → x.q ≠ x'.q ∧ ∀ y ∈ mblk x.mv, y ∉ mblk x'.mv
section
variable {B : Nat} {w w' : World} {p g n K : Nat} {c : List Value} {vs : Nat → Nat → Value} {fr : Nat → Nat → List Fr}
theorem NetG.kept (h : NetG B w p g n c vs fr K) (hb : Below w.heap.size w w') : NetG B w' p g n c vs fr K :=
  { h with net := h.net.kept hb h.net.lt, row := h.row.kept hb h.row.lt, bag := fun k d hk hd => (h.bag k d hk hd).kept hb, frs := fun k d hk hd x hx => (h.frs k d hk hd x hx).kept hb }
/-- What a net owns is not a row of bytes and not a net's own box. -/
theorem NetG.types (h : NetG B w p g n c vs fr K) {x : Nat} (hx : Owned g n vs fr x) {cc : List Value} {t : TypeId} (r : Row w x cc t) : t = 67 ∨ t = 73 ∨ t = 84 := by
  cases hx with
  | roads e => subst e; exact .inl (r.type h.row)
  | bag k d hk hd hm => obtain ⟨c', R'⟩ := (h.bag k d hk hd).blkRow x hm; exact .inr (.inl (r.type R'))
  | parcel k d hk hd y hy e => subst e; obtain ⟨gb, r1, _⟩ := h.frs k d hk hd y hy; exact .inr (.inr (r.type r1))
  | map k d hk hd y hy hm =>
    obtain ⟨gb, _, _, t', _⟩ := h.frs k d hk hd y hy
    exact absurd hm (mblk_ne t' r)
theorem NetG.lt (h : NetG B w p g n c vs fr K) {x : Nat} (hx : Owned g n vs fr x) : x < w.heap.size := by
  cases hx with
  | roads e => subst e; exact h.row.lt
  | bag k d hk hd hm => obtain ⟨c', R'⟩ := (h.bag k d hk hd).blkRow x hm; exact R'.lt
  | parcel k d hk hd y hy e => subst e; obtain ⟨gb, r1, _⟩ := h.frs k d hk hd y hy; exact r1.lt
  | map k d hk hd y hy hm =>
    obtain ⟨gb, _, _, t', _⟩ := h.frs k d hk hd y hy
    rcases t' with ⟨e, _⟩ | ⟨b, k', D, e, ho, _⟩
    · rw [e] at hm; cases hm
    · rw [e] at hm
      have : x = b := by simpa [mblk] using hm
      subst this
      obtain ⟨es, clock, h1, _⟩ := ho
      exact (Array.getElem?_eq_some_iff.1 h1).1
/-- What lies beside the net stays. -/
theorem NetG.far {S : List Nat} (h : NetG B w p g n c vs fr K) (ho : Only S w w') (hS : ∀ x ∈ S, ¬ Owned g n vs fr x) (ht : ∀ x ∈ S, ∀ cc t, Row w x cc t → t ≠ 5 ∧ t ≠ 52) : NetG B w' p g n c vs fr K :=
  { h with
    net := ho.row h.net (fun hm => (ht _ hm _ _ h.net).2 rfl)
    row := ho.row h.row (fun hm => hS _ hm (.roads rfl))
    bag := fun k d hk hd => (h.bag k d hk hd).only ho (fun _ hx hm => hS _ hm (.bag k d hk hd hx))
    frs := fun k d hk hd x hx => (h.frs k d hk hd x hx).only ho (fun hm => hS _ hm (.parcel k d hk hd x hx rfl)) (fun _ hy hm => hS _ hm (.map k d hk hd x hx hy)) (fun y hy cc r => (ht y hy cc 5 r).1 rfl) }
end
/-- At one path and direction another. -/
def upd {α : Type} (f : Nat → Nat → α) (k d : Nat) (v : α) : Nat → Nat → α := fun k' d' => if k' = k ∧ d' = d then v else f k' d'
theorem upd_same {α : Type} (f : Nat → Nat → α) (k d : Nat) (v : α) : upd f k d v k d = v := if_pos ⟨rfl, rfl⟩
theorem upd_other {α : Type} (f : Nat → Nat → α) (k d : Nat) (v : α) {k' d' : Nat} (h : ¬ (k' = k ∧ d' = d)) : upd f k d v k' d' = f k' d' := if_neg h
/-- A bag is turned: its block and the paths' block are written, what is new in it is new altogether. -/
structure BagTurn (w w' : World) (g k d : Nat) (v v' : Value) (c c' : List Value) (l l' : List Fr) (K : Nat) : Prop where
  only : Only (g :: blk v) w w'
  row : Row w' g c' 67
  same : ∀ i, ¬ (k * 16 + 4 ≤ i ∧ i < k * 16 + 16) → c'[i]? = c[i]?
  cnt : ∀ i, 4 ≤ i → i < 14 → ∃ P, c'[k * 16 + i]? = some (.int .u64 P)
  here : c'[k * 16 + 14 + d]? = some v'
  there : ∀ d', d' < 2 → d' ≠ d → c'[k * 16 + 14 + d']? = c[k * 16 + 14 + d']?
  len : c'.length = c.length
  one : ∀ v ∈ c', v.oneCell' = true
  bag : BagAt w' v' (l'.map Fr.q)
  blks : ∀ x ∈ blk v', x ∈ blk v ∨ w.heap.size ≤ x
  frs : ∀ x ∈ l', x ∈ l ∨ (FrAt w' K x ∧ w.heap.size ≤ x.q ∧ ∀ y ∈ mblk x.mv, w.heap.size ≤ y)
  sep : ∀ (j j' : Nat) (x x' : Fr), j' ≠ j → l'[j]? = some x → l'[j']? = some x' → x.q ≠ x'.q ∧ ∀ y ∈ mblk x.mv, y ∉ mblk x'.mv
  room : ∀ C, c[k * 16 + 1]? = some (.int .i64 C) → (l'.length : Int) ≤ C
section
variable {B : Nat} {w w' : World} {p g n K : Nat} {c c' : List Value} {vs : Nat → Nat → Value} {fr : Nat → Nat → List Fr} {k d : Nat} {v' : Value} {l' : List Fr}
theorem NetG.owned_turn (_h : NetG B w p g n c vs fr K) (hk : k < n) (hd : d < 2) (t : BagTurn w w' g k d (vs k d) v' c c' (fr k d) l' K) {x : Nat} (hx : Owned g n (upd vs k d v') (upd fr k d l') x) : Owned g n vs fr x ∨ w.heap.size ≤ x := by
  cases hx with
  | roads e => exact .inl (.roads e)
  | bag k' d' hk' hd' hm =>
    by_cases e : k' = k ∧ d' = d
    · obtain ⟨rfl, rfl⟩ := e
      rw [upd_same] at hm
      rcases t.blks x hm with h1 | h1
      · exact .inl (.bag _ _ hk hd h1)
      · exact .inr h1
    · rw [upd_other _ _ _ _ e] at hm
      exact .inl (.bag k' d' hk' hd' hm)
  | parcel k' d' hk' hd' y hy hm =>
    by_cases e : k' = k ∧ d' = d
    · obtain ⟨rfl, rfl⟩ := e
      rw [upd_same] at hy
      rcases t.frs y hy with h1 | h1
      · exact .inl (.parcel _ _ hk hd y h1 hm)
      · exact .inr (hm ▸ h1.2.1)
    · rw [upd_other _ _ _ _ e] at hy
      exact .inl (.parcel k' d' hk' hd' y hy hm)
  | map k' d' hk' hd' y hy hm =>
    by_cases e : k' = k ∧ d' = d
    · obtain ⟨rfl, rfl⟩ := e
      rw [upd_same] at hy
      rcases t.frs y hy with h1 | h1
      · exact .inl (.map _ _ hk hd y h1 hm)
      · exact .inr (h1.2.2 x hm)
    · rw [upd_other _ _ _ _ e] at hy
      exact .inl (.map k' d' hk' hd' y hy hm)
theorem NetG.old (h : NetG B w p g n c vs fr K) (hk : k < n) (hd : d < 2) (ho : Only (g :: blk (vs k d)) w w') {k' d' : Nat} (hk' : k' < n) (hd' : d' < 2) {x : Fr} (hx : x ∈ fr k' d') : FrAt w' K x := by
  have hf := h.frs k' d' hk' hd' x hx
  obtain ⟨gb, r1, r2, t', _⟩ := hf
  have hne : ∀ y ∈ g :: blk (vs k d), ∃ cc t, Row w y cc t ∧ (t = 67 ∨ t = 73) := fun y hy => by
    rcases List.mem_cons.1 hy with rfl | hy
    · exact ⟨_, _, h.row, .inl rfl⟩
    · obtain ⟨c', R'⟩ := (h.bag k d hk hd).blkRow y hy
      exact ⟨_, _, R', .inr rfl⟩
  refine (h.frs k' d' hk' hd' x hx).only ho (fun hm => ?_) (fun y hy hm => ?_) (fun y hy cc r => ?_)
  · obtain ⟨cc, t, r, e⟩ := hne _ hm
    have := r.type r1
    rcases e with rfl | rfl <;> exact absurd this (by decide)
  · obtain ⟨cc, t, r, e⟩ := hne _ hm
    exact mblk_ne t' r hy
  · obtain ⟨cc', t, r', e⟩ := hne _ hy
    have := r.type r'
    rcases e with rfl | rfl <;> exact absurd this (by decide)
theorem get_mem {α : Type} {l : List α} {j : Nat} {x : α} (h : l[j]? = some x) : x ∈ l := List.mem_of_getElem? h
theorem NetG.turn (h : NetG B w p g n c vs fr K) (hk : k < n) (hd : d < 2) (t : BagTurn w w' g k d (vs k d) v' c c' (fr k d) l' K) : NetG B w' p g n c' (upd vs k d v') (upd fr k d l') K := by
  have hB : B ≤ w.heap.size := Nat.le_of_lt (Nat.lt_of_le_of_lt (h.ge g (.roads rfl)) h.row.lt)
  have low : ∀ {k' d' : Nat}, k' < n → d' < 2 → ∀ x ∈ fr k' d', x.q < w.heap.size ∧ ∀ y ∈ mblk x.mv, y < w.heap.size := fun hk' hd' x hx => ⟨h.lt (.parcel _ _ hk' hd' x hx rfl), fun y hy => h.lt (.map _ _ hk' hd' x hx hy)⟩
  exact
    { net := t.only.row h.net (fun hm => by
        rcases List.mem_cons.1 hm with e | hm
        · exact absurd (h.net.type (e ▸ h.row)) (by decide)
        · obtain ⟨c', R'⟩ := (h.bag k d hk hd).blkRow p hm
          exact absurd (h.net.type R') (by decide))
      row := t.row
      len := by rw [t.len, h.len]
      one := t.one
      up := fun k' hk' => by
        obtain ⟨u, hu⟩ := h.up k' hk'
        exact ⟨u, by rw [t.same _ (by omega), hu]⟩
      cap := fun k' hk' => by
        obtain ⟨C, h1, h2, h3, h4⟩ := h.cap k' hk'
        refine ⟨C, by rw [t.same _ (by omega), h1], h2, h3, fun d' hd' => ?_⟩
        by_cases e : k' = k ∧ d' = d
        · obtain ⟨rfl, rfl⟩ := e
          rw [upd_same]
          exact t.room C h1
        · rw [upd_other _ _ _ _ e]
          exact h4 d' hd'
      cnt := fun k' i hk' h1 h2 => by
        by_cases e : k' = k
        · subst e
          exact t.cnt i h1 h2
        · obtain ⟨P, hP⟩ := h.cnt k' i hk' h1 h2
          exact ⟨P, by rw [t.same _ (by omega), hP]⟩
      hbag := fun k' d' hk' hd' => by
        by_cases e : k' = k ∧ d' = d
        · obtain ⟨rfl, rfl⟩ := e
          rw [upd_same]
          exact t.here
        · rw [upd_other _ _ _ _ e, ← h.hbag k' d' hk' hd']
          by_cases ek : k' = k
          · subst ek
            exact t.there d' hd' (fun ed => e ⟨rfl, ed⟩)
          · exact t.same _ (by omega)
      bag := fun k' d' hk' hd' => by
        by_cases e : k' = k ∧ d' = d
        · obtain ⟨rfl, rfl⟩ := e
          rw [upd_same, upd_same]
          exact t.bag
        · rw [upd_other _ _ _ _ e, upd_other _ _ _ _ e]
          refine (h.bag k' d' hk' hd').only t.only (fun x hx hm => ?_)
          rcases List.mem_cons.1 hm with rfl | hm
          · obtain ⟨c', R'⟩ := (h.bag k' d' hk' hd').blkRow _ hx
            exact absurd (R'.type h.row) (by decide)
          · exact h.sepb k d k' d' hk hd hk' hd' e x hm hx
      frs := fun k' d' hk' hd' x hx => by
        by_cases e : k' = k ∧ d' = d
        · obtain ⟨rfl, rfl⟩ := e
          rw [upd_same] at hx
          rcases t.frs x hx with h1 | h1
          · exact h.old hk hd t.only hk hd h1
          · exact h1.1
        · rw [upd_other _ _ _ _ e] at hx
          exact h.old hk hd t.only hk' hd' hx
      bp := h.bp
      ge := fun x hx => by
        rcases h.owned_turn hk hd t hx with h1 | h1
        · exact h.ge x h1
        · omega
      sepb := fun k1 d1 k2 d2 hk1 hd1 hk2 hd2 hne x hx hx2 => by
        by_cases e : k1 = k ∧ d1 = d
        · obtain ⟨rfl, rfl⟩ := e
          rw [upd_same] at hx
          rw [upd_other _ _ _ _ hne] at hx2
          rcases t.blks x hx with h1 | h1
          · exact h.sepb _ _ k2 d2 hk1 hd1 hk2 hd2 hne x h1 hx2
          · have := h.lt (.bag k2 d2 hk2 hd2 hx2); omega
        · rw [upd_other _ _ _ _ e] at hx
          by_cases e2 : k2 = k ∧ d2 = d
          · obtain ⟨rfl, rfl⟩ := e2
            rw [upd_same] at hx2
            rcases t.blks x hx2 with h1 | h1
            · exact h.sepb k1 d1 _ _ hk1 hd1 hk2 hd2 hne x hx h1
            · have := h.lt (.bag k1 d1 hk1 hd1 hx); omega
          · rw [upd_other _ _ _ _ e2] at hx2
            exact h.sepb k1 d1 k2 d2 hk1 hd1 hk2 hd2 hne x hx hx2
      sepq := fun k1 d1 j1 k2 d2 j2 x x' hk1 hd1 hk2 hd2 hne hx hx2 => by
        by_cases e : k1 = k ∧ d1 = d
        · obtain ⟨rfl, rfl⟩ := e
          rw [upd_same] at hx
          by_cases e2 : k2 = k1 ∧ d2 = d1
          · obtain ⟨rfl, rfl⟩ := e2
            rw [upd_same] at hx2
            exact t.sep j1 j2 x x' (fun ej => hne ⟨rfl, rfl, ej⟩) hx hx2
          · rw [upd_other _ _ _ _ e2] at hx2
            have l2 := low hk2 hd2 x' (get_mem hx2)
            rcases t.frs x (get_mem hx) with h1 | h1
            · obtain ⟨i, hi, hxi⟩ := List.mem_iff_getElem.1 h1
              exact h.sepq _ _ i k2 d2 j2 x x' hk1 hd1 hk2 hd2 (fun ee => e2 ⟨ee.1, ee.2.1⟩) (by rw [List.getElem?_eq_getElem hi, hxi]) hx2
            · exact ⟨by have := h1.2.1; omega, fun y hy hy2 => by have := h1.2.2 y hy; have := l2.2 y hy2; omega⟩
        · rw [upd_other _ _ _ _ e] at hx
          have l1 := low hk1 hd1 x (get_mem hx)
          by_cases e2 : k2 = k ∧ d2 = d
          · obtain ⟨rfl, rfl⟩ := e2
            rw [upd_same] at hx2
            rcases t.frs x' (get_mem hx2) with h1 | h1
            · obtain ⟨i, hi, hxi⟩ := List.mem_iff_getElem.1 h1
              exact h.sepq k1 d1 j1 _ _ i x x' hk1 hd1 hk2 hd2 (fun ee => e ⟨ee.1.symm, ee.2.1.symm⟩) hx (by rw [List.getElem?_eq_getElem hi, hxi])
            · exact ⟨by have := h1.2.1; omega, fun y hy hy2 => by have := h1.2.2 y hy2; have := l1.2 y hy; omega⟩
          · rw [upd_other _ _ _ _ e2] at hx2
            exact h.sepq k1 d1 j1 k2 d2 j2 x x' hk1 hd1 hk2 hd2 hne hx hx2 }
end
end Go.Proofs.Ytjnmfedefmemnaa
