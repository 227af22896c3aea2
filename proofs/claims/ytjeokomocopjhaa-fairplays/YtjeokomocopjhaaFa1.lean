import Derived.Test.YtjeokomocopjhaaFa0
import Derived.Maps.AppendAt
import Derived.Deep.RegionLaw
import Derived.Lib.SliceRun
namespace Go.Proofs.Ytjeokomocopjhaa
open Go.RowKit Go.Maps
set_option maxRecDepth 100000

theorem hid2 {p : Prop} (h : p) : Hid p := h
abbrev pt (g o : Nat) : Value := .pointer (some ⟨g, o, none⟩)
theorem below_box (w : World) (o : Obj) : Below w.heap.size w (w.alloc o) := (Below.refl _ _).alloc (Nat.le_refl _) _
theorem box_cells (w : World) (c : Array Value) (t : TypeId) (j : Nat) (v : Value) (h : c[j]? = some v) : (w.alloc (.cells c t)).cell? ⟨w.heap.size, j, none⟩ = some v := by
  rw [cell_of_row _ _ _ _ _ _ (heap_alloc_new w _)]
  exact h
theorem grown_below {w w' : World} (h : w.grownBy w' none) : Below w.heap.size w w' := ⟨h.os, h.tape, h.output, h.size, fun k hk => h.block k hk (by simp)⟩
/-- Numbers as cells. -/
def ucells (l : List Int) : List Value := l.map (Value.int .u64)
theorem ucells_one (l : List Int) : ∀ v ∈ ucells l, v.oneCell' = true := by
  intro v hv
  obtain ⟨x, _, rfl⟩ := List.mem_map.1 hv
  rfl
theorem ucells_app (a b : List Int) : ucells (a ++ b) = ucells a ++ ucells b := by simp [ucells]
theorem ucells_len (a : List Int) : (ucells a).length = a.length := by simp [ucells]
theorem info26 : ∃ i : TypeInfo, Try.prog.info? 26 = some i ∧ i.zero = some (.int .u64 0) ∧ i.size = 1 ∧ i.bytes = 8 := by
  have h : (Try.prog.info? 26).map (fun i => (i.zero, i.size, i.bytes)) = some (some (.int .u64 0), 1, 8) := by kernel_rfl
  cases hq : Try.prog.info? 26 with
  | none => rw [hq] at h; cases h
  | some i => rw [hq] at h; simp at h; exact ⟨i, rfl, h.1, h.2.1, h.2.2⟩
/-- An own row of numbers. -/
abbrev OwnN (w : World) (v : Value) (l : List Int) : Prop := w.ownsRow 0 26 1 v l.length (ucells l)
theorem own_keep {w w' : World} {S : Nat → Prop} {base : Nat} {t : TypeId} {sz : Nat} {v : Value} {n : Nat} {xs : List Value} (h : w.ownsRow base t sz v n xs) (hf : Fr S w w') (hS : ∀ g, v.ownBlock = some g → ¬ S g) : w'.ownsRow base t sz v n xs := by
  refine ⟨h.1, h.2.imp id ?_⟩
  rintro ⟨g, cap, cur, h1, h2, h3, h4⟩
  exact ⟨g, cap, cur, h1, h2, (hf.block g (Array.getElem?_eq_some_iff.1 h3).1 (hS g (by rw [h1]; rfl))).trans h3, h4⟩
theorem own_blk {w : World} {base : Nat} {t : TypeId} {sz : Nat} {v : Value} {n : Nat} {xs : List Value} (h : w.ownsRow base t sz v n xs) {g : Nat} (e : v.ownBlock = some g) : ∃ cur, w.heap[g]? = some (.cells cur t (0, 0)) := by
  rcases h.2 with ⟨rfl, _⟩ | ⟨g', cap, cur, rfl, _, hg, _⟩
  · simp [Value.ownBlock] at e
  · simp only [Value.ownBlock, Option.some.injEq] at e
    subst e
    exact ⟨cur, hg⟩
theorem own_lt {w : World} {base : Nat} {t : TypeId} {sz : Nat} {v : Value} {n : Nat} {xs : List Value} (h : w.ownsRow base t sz v n xs) {g : Nat} (e : v.ownBlock = some g) : g < w.heap.size := by
  obtain ⟨cur, hg⟩ := own_blk h e
  exact (Array.getElem?_eq_some_iff.1 hg).1
/-- What an own row of numbers is. -/
theorem own_shape {w : World} {v : Value} {l : List Int} (h : OwnN w v l) : (v = .slice none 0 0 ∧ l = []) ∨ ∃ g cap cur, v = .slice (some ⟨g, 0, none⟩) l.length cap ∧ w.heap[g]? = some (.cells cur 26 (0, 0)) ∧ l.length ≤ cap ∧ cap ≤ maxLen ∧ cur.size = cap ∧ cur.toList.take l.length = ucells l := by
  obtain ⟨hl, ⟨rfl, hn⟩ | ⟨g, cap, cur, rfl, hb, hg, hnc, hcm, hcs, htk⟩⟩ := h
  · exact .inl ⟨rfl, List.eq_nil_of_length_eq_zero hn⟩
  · exact .inr ⟨g, cap, cur, rfl, hg, hnc, hcm, by simpa using hcs, by simpa using htk⟩
theorem own_slice {w : World} {v : Value} {l : List Int} (h : OwnN w v l) : ∃ a cap, v = .slice a l.length cap ∧ l.length ≤ cap ∧ cap ≤ maxLen ∧ (a = none → cap = 0) ∧ ∀ j (hj : j < l.length), ∃ g, a = some ⟨g, 0, none⟩ ∧ w.cell? ⟨g, j, none⟩ = some (.int .u64 l[j]) := by
  rcases own_shape h with ⟨rfl, rfl⟩ | ⟨g, cap, cur, rfl, hg, hnc, hcm, hcs, htk⟩
  · exact ⟨none, 0, rfl, Nat.le_refl _, Nat.zero_le _, fun _ => rfl, fun j hj => by simp at hj⟩
  · refine ⟨_, cap, rfl, hnc, hcm, fun e => (by cases e), fun j hj => ⟨g, rfl, ?_⟩⟩
    rw [cell_of_row w g _ _ _ _ hg, ← Array.getElem?_toList, ← List.getElem?_take_of_lt hj, htk]
    simp [ucells, hj]
/-- Whose turn it is: the quantum, the streams, the rows. -/
structure Fs where
  q : Int
  U : List Ln
  R : Nat → List Int
def upR {α : Type} (R : Nat → α) (c : Nat) (v : α) : Nat → α := fun k => if k = c then v else R k
theorem upR_same {α : Type} (R : Nat → α) (c : Nat) (v : α) : upR R c v c = v := if_pos rfl
theorem upR_other {α : Type} (R : Nat → α) {c k : Nat} (v : α) (h : k ≠ c) : upR R c v k = R k := if_neg h
def fcells (q : Int) (b : Nat) (V : Nat → Value) : List Value := [.int .i64 q, .map (some b), V 0, V 1, V 2, V 3, V 4, V 5, V 6, V 7]
theorem lt8 {c : Nat} (h : c < 8) : c = 0 ∨ c = 1 ∨ c = 2 ∨ c = 3 ∨ c = 4 ∨ c = 5 ∨ c = 6 ∨ c = 7 := by omega
theorem fcells_get (q : Int) (b : Nat) (V : Nat → Value) {c : Nat} (h : c < 8) : (fcells q b V)[2 + c]? = some (V c) := by
  rcases lt8 h with rfl | rfl | rfl | rfl | rfl | rfl | rfl | rfl <;> rfl
theorem fcells_set (q : Int) (b : Nat) (V : Nat → Value) {c : Nat} (h : c < 8) (v : Value) : (fcells q b V).set (2 + c) v = fcells q b (upR V c v) := by
  rcases lt8 h with rfl | rfl | rfl | rfl | rfl | rfl | rfl | rfl <;> rfl
/-- Its memory. -/
structure FaAt (w : World) (p b : Nat) (V : Nat → Value) (F : Fs) : Prop where
  row : Row w p (fcells F.q b V) 57
  map : OwnU w b F.U
  rows : ∀ x ∈ F.U, Row w x.g x.cells 44
  inj : F.U.Pairwise (fun x y => x.g ≠ y.g)
  rise : Rising F.U
  own : ∀ k, k < 8 → OwnN w (V k) (F.R k)
  ap : ∀ j k, j < 8 → k < 8 → j ≠ k → ∀ g, (V j).ownBlock = some g → (V k).ownBlock ≠ some g
def Foot (p b : Nat) (V : Nat → Value) (F : Fs) (k : Nat) : Prop := k = p ∨ k = b ∨ (∃ x ∈ F.U, x.g = k) ∨ ∃ j, j < 8 ∧ (V j).ownBlock = some k
theorem cells_type {w : World} {g : Nat} {c c' : Array Value} {t t' : TypeId} {f f' : Nat × Nat} (h : w.heap[g]? = some (.cells c t f)) (h' : w.heap[g]? = some (.cells c' t' f')) : t = t' := by
  rw [h] at h'
  injection h' with h'
  injection h' with _ h'
section
variable {w w' : World} {p b : Nat} {V : Nat → Value} {F : Fs}
theorem FaAt.lt (h : FaAt w p b V F) {k : Nat} (hk : Foot p b V F k) : k < w.heap.size := by
  rcases hk with rfl | rfl | ⟨x, hx, rfl⟩ | ⟨j, hj, e⟩
  · exact h.row.lt
  · exact World.ownsMap.lt h.map
  · exact (h.rows x hx).lt
  · exact own_lt (h.own j hj) e
theorem FaAt.kept {S : Nat → Prop} (h : FaAt w p b V F) (hf : Fr S w w') (hS : ∀ k, Foot p b V F k → ¬ S k) : FaAt w' p b V F :=
  ⟨hf.row h.row (hS p (.inl rfl)), OwnU.block h.map (hf.block b (World.ownsMap.lt h.map) (hS b (.inr (.inl rfl)))), fun x hx => hf.row (h.rows x hx) (hS _ (.inr (.inr (.inl ⟨x, hx, rfl⟩)))), h.inj, h.rise,
    fun k hk => own_keep (h.own k hk) hf (fun g e => hS g (.inr (.inr (.inr ⟨k, hk, e⟩)))), h.ap⟩
theorem FaAt.below (h : FaAt w p b V F) (hb : Below w.heap.size w w') : FaAt w' p b V F :=
  h.kept (S := fun _ => False) (Fr.of_below hb (Nat.le_refl _)) (fun _ _ e => e)
theorem FaAt.drewN (h : FaAt w p b V F) (q : Nat) : FaAt (w.drewN q) p b V F := h.below (below_drewN (Below.refl _ _) q)
theorem FaAt.bmap (h : FaAt w p b V F) {c : Array Value} {t : TypeId} {f : Nat × Nat} (hk : w.heap[b]? = some (.cells c t f)) : False := by
  obtain ⟨es, clock, hb, _⟩ := h.map
  rw [hk] at hb
  cases hb
theorem FaAt.pb (h : FaAt w p b V F) : p ≠ b := fun e => h.bmap (e ▸ h.row.at_)
theorem FaAt.gb (h : FaAt w p b V F) {x : Ln} (hx : x ∈ F.U) : x.g ≠ b := fun e => h.bmap (e ▸ (h.rows x hx).at_)
theorem FaAt.gp (h : FaAt w p b V F) {x : Ln} (hx : x ∈ F.U) : x.g ≠ p := fun e => absurd (cells_type (h.rows x hx).at_ (e ▸ h.row.at_)) (by decide)
theorem FaAt.ob (h : FaAt w p b V F) {j : Nat} (hj : j < 8) : (V j).ownBlock ≠ some b := fun e => by
  obtain ⟨cur, hg⟩ := own_blk (h.own j hj) e
  exact h.bmap hg
theorem FaAt.op (h : FaAt w p b V F) {j : Nat} (hj : j < 8) : (V j).ownBlock ≠ some p := fun e => by
  obtain ⟨cur, hg⟩ := own_blk (h.own j hj) e
  exact absurd (cells_type h.row.at_ hg) (by decide)
theorem FaAt.og (h : FaAt w p b V F) {j : Nat} (hj : j < 8) {x : Ln} (hx : x ∈ F.U) : (V j).ownBlock ≠ some x.g := fun e => by
  obtain ⟨cur, hg⟩ := own_blk (h.own j hj) e
  exact absurd (cells_type (h.rows x hx).at_ hg) (by decide)
/-- A block of another type is none of its own. -/
theorem FaAt.other (h : FaAt w p b V F) {k : Nat} {c : Array Value} {t : TypeId} {f : Nat × Nat} (hk : w.heap[k]? = some (.cells c t f)) (h1 : t ≠ 57) (h2 : t ≠ 44) (h3 : t ≠ 26) : ¬ Foot p b V F k := by
  rintro (rfl | rfl | ⟨x, hx, rfl⟩ | ⟨j, hj, e⟩)
  · exact h1 (cells_type hk h.row.at_)
  · exact h.bmap hk
  · exact h2 (cells_type hk (h.rows x hx).at_)
  · obtain ⟨cur, hg⟩ := own_blk (h.own j hj) e
    exact h3 (cells_type hk hg)
theorem FaAt.ginj (h : FaAt w p b V F) {x y : Ln} (hx : x ∈ F.U) (hy : y ∈ F.U) (e : x.g = y.g) : x = y := by
  have := h.inj
  clear h
  generalize F.U = U at *
  induction U with
  | nil => cases hx
  | cons a r ih =>
    obtain ⟨h1, h2⟩ := List.pairwise_cons.1 this
    rcases List.mem_cons.1 hx with ex | hx' <;> rcases List.mem_cons.1 hy with ey | hy'
    · rw [ex, ey]
    · rw [ex] at e; exact absurd e (h1 y hy')
    · rw [ey] at e; exact absurd e.symm (h1 x hx')
    · exact ih hx' hy' h2
end
/-- A call's turn: what it leaves, and that nothing else is another one. -/
structure Mv (p b : Nat) (V : Nat → Value) (F : Fs) (w : World) (V' : Nat → Value) (F' : Fs) (w' : World) : Prop where
  at_ : FaAt w' p b V' F'
  fr : Fr (Foot p b V F) w w'
  gr : ∀ k, Foot p b V' F' k → Foot p b V F k ∨ w.heap.size ≤ k
section
variable {w w' w'' : World} {p b : Nat} {V V' V'' : Nat → Value} {F F' F'' : Fs}
theorem Mv.refl (h : FaAt w p b V F) : Mv p b V F w V F w := ⟨h, Fr.refl _ _, fun _ hk => .inl hk⟩
theorem Mv.trans (h : Mv p b V F w V' F' w') (k : Mv p b V' F' w' V'' F'' w'') : Mv p b V F w V'' F'' w'' :=
  ⟨k.at_, h.fr.trans k.fr h.gr, fun x hx => by
    rcases k.gr x hx with e | e
    · exact h.gr x e
    · exact .inr (Nat.le_trans h.fr.size e)⟩
theorem Mv.below (h : Mv p b V F w V' F' w') (hb : Below w'.heap.size w' w'') : Mv p b V F w V' F' w'' :=
  ⟨h.at_.below hb, h.fr.trans (T := fun _ => False) (Fr.of_below hb (Nat.le_refl _)) (fun _ e => e.elim), h.gr⟩
theorem Mv.drewN (h : Mv p b V F w V' F' w') (q : Nat) : Mv p b V F w V' F' (w'.drewN q) := h.below (below_drewN (Below.refl _ _) q)
theorem Mv.ahead (hb : Below w.heap.size w w') (h : Mv p b V F w' V' F' w'') : Mv p b V F w V' F' w'' :=
  ⟨h.at_, (Fr.of_below hb (Nat.le_refl _)).trans h.fr (fun x hx => .inl hx), fun x hx => by
    rcases h.gr x hx with e | e
    · exact .inl e
    · exact .inr (Nat.le_trans hb.size e)⟩
/-- A cell of a stream is another one. -/
theorem FaAt.turn (h : FaAt w p b V F) {x : Ln} (hx : x ∈ F.U) (j : Nat) (v : Value) {s : Ss} (hc : x.cells.set j v = ({ x with s := s } : Ln).cells) : Mv p b V F w V { F with U := upd F.U x.num s } (w.setCell ⟨x.g, j, none⟩ v) := by
  refine ⟨⟨h.row.setOther ⟨x.g, j, none⟩ (fun e => h.gp hx e.symm) v, ?_, fun y hy => ?_, ?_, upd_rising h.rise _ _, fun k hk => ?_, h.ap⟩, (Fr.refl _ _).setCell x.g j v (.inl (.inr (.inr (.inl ⟨x, hx, rfl⟩)))), fun k hk => .inl ?_⟩
  · show World.ownsMap _ _ _ _ _ (upd F.U x.num s).length (UD (upd F.U x.num s))
    rw [UD_upd, upd_len]
    exact OwnU.block h.map (Below.heap_setCell w ⟨x.g, j, none⟩ v b (fun e => h.gb hx e.symm))
  · obtain ⟨z, hz, rfl⟩ := mem_upd.1 hy
    by_cases e : z.num = x.num
    · have := h.rise.inj hz hx e
      subst this
      rw [if_pos rfl, ← hc]
      exact (h.rows z hz).set j v
    · rw [if_neg e]
      exact (h.rows z hz).setOther ⟨x.g, j, none⟩ (fun e' => e (by rw [h.ginj hz hx e'])) v
  · show (upd F.U x.num s).Pairwise _
    unfold upd
    rw [List.pairwise_map]
    refine h.inj.imp ?_
    intro a c hac
    split <;> split <;> exact hac
  · exact own_keep (S := fun k => k = x.g) (h.own k hk) ((Fr.refl _ _).setCell x.g j v (.inl rfl)) (fun g e e' => by subst e'; exact h.og hk hx e)
  · rcases hk with e | e | ⟨y, hy, rfl⟩ | e
    · exact .inl e
    · exact .inr (.inl e)
    · obtain ⟨z, hz, rfl⟩ := mem_upd.1 hy
      refine .inr (.inr (.inl ⟨z, hz, ?_⟩))
      split <;> rfl
    · exact .inr (.inr (.inr e))
/-- A row is another one. -/
theorem FaAt.put (h : FaAt w p b V F) {c : Nat} (hc : c < 8) {v : Value} {l : List Int} (hf : Fr (fun k => (V c).ownBlock = some k) w w') (ho : OwnN w' v l) (hn : ∀ g, v.ownBlock = some g → (V c).ownBlock = some g ∨ w.heap.size ≤ g) :
    Mv p b V F w (upR V c v) { F with R := upR F.R c l } (w'.setCell ⟨p, 2 + c, none⟩ v) := by
  have hp' := hf.row h.row (h.op hc)
  have hF : Fr (fun k => k = p ∨ (V c).ownBlock = some k) w (w'.setCell ⟨p, 2 + c, none⟩ v) := (hf.wider (fun _ e => .inr e)).setCell p (2 + c) v (.inl (.inl rfl))
  have hvp : v.ownBlock ≠ some p := fun e => by
    obtain ⟨cur, hg⟩ := own_blk ho e
    exact absurd (cells_type hp'.at_ hg) (by decide)
  refine ⟨⟨?_, ?_, fun x hx => ?_, h.inj, h.rise, fun k hk => ?_, fun j k hj hk hjk g e e' => ?_⟩, hF.wider (fun k e => ?_), fun k hk => ?_⟩
  · have := hp'.set (2 + c) v
    rwa [fcells_set _ _ _ hc] at this
  · exact OwnU.block h.map (hF.block b (World.ownsMap.lt h.map) (fun e => by rcases e with e | e; exact h.pb e.symm; exact h.ob hc e))
  · exact hF.row (h.rows x hx) (fun e => by rcases e with e | e; exact h.gp hx e; exact h.og hc hx e)
  · by_cases e : k = c
    · subst e
      show OwnN _ (upR V k v k) (upR F.R k l k)
      rw [upR_same, upR_same]
      exact own_keep (S := fun k => k = p) ho ((Fr.refl _ _).setCell p (2 + k) v (.inl rfl)) (fun g e e' => by subst e'; exact hvp e)
    · show OwnN _ (upR V c v k) (upR F.R c l k)
      rw [upR_other _ _ e, upR_other _ _ e]
      exact own_keep (h.own k hk) hF (fun g e1 e2 => by
        rcases e2 with e2 | e2
        · subst e2; exact h.op hk e1
        · exact h.ap k c hk hc e g e1 e2)
  · have hlt : ∀ i, i < 8 → i ≠ c → (V i).ownBlock = some g → v.ownBlock = some g → False := fun i hi hic ei ev => by
      rcases hn g ev with e1 | e1
      · exact h.ap i c hi hc hic g ei e1
      · have := own_lt (h.own i hi) ei
        omega
    by_cases ej : j = c
    · subst ej
      rw [upR_same] at e
      rw [upR_other _ _ (fun e => hjk e.symm)] at e'
      exact hlt k hk (fun e => hjk e.symm) e' e
    · rw [upR_other _ _ ej] at e
      by_cases ek : k = c
      · subst ek
        rw [upR_same] at e'
        exact hlt j hj ej e e'
      · rw [upR_other _ _ ek] at e'
        exact h.ap j k hj hk hjk g e e'
  · rcases e with e | e
    · exact .inl e
    · exact .inr (.inr (.inr ⟨c, hc, e⟩))
  · rcases hk with e | e | e | ⟨j, hj, e⟩
    · exact .inl (.inl e)
    · exact .inl (.inr (.inl e))
    · exact .inl (.inr (.inr (.inl e)))
    · by_cases ej : j = c
      · subst ej
        rw [upR_same] at e
        rcases hn k e with e | e
        · exact .inl (.inr (.inr (.inr ⟨j, hj, e⟩)))
        · exact .inr e
      · rw [upR_other _ _ ej] at e
        exact .inl (.inr (.inr (.inr ⟨j, hj, e⟩)))
/-- A stream is born. -/
theorem FaAt.born (h : FaAt w p b V F) {y : Ln} (hy : ∀ x ∈ F.U, x.num ≠ y.num) (hr : Row w y.g y.cells 44) (hg : ∀ x ∈ F.U, x.g ≠ y.g)
    (ho : w'.ownsMap Try.prog 26 readP b (F.U.length + 1) ((UD F.U).put (kw y.num) (.held y.g))) (hf : w.grownBy w' (some b)) : FaAt w' p b V { F with U := ins y F.U } := by
  have hF : Fr (fun k => k = b) w w' := Fr.of_grown hf (fun k e => .inl (by simpa using e.symm))
  have hyb : y.g ≠ b := fun e => h.bmap (e ▸ hr.at_)
  rw [UD_put hy] at ho
  refine ⟨hF.row h.row h.pb, own_tight ho, fun x hx => ?_, ?_, ins_rising h.rise hy, fun k hk => own_keep (h.own k hk) hF (fun g e e' => by subst e'; exact h.ob hk e), h.ap⟩
  · rcases mem_ins.1 hx with rfl | hx
    · exact hF.row hr hyb
    · exact hF.row (h.rows x hx) (h.gb hx)
  · show (ins y F.U).Pairwise _
    have := h.inj
    clear ho hr h
    generalize F.U = U at *
    clear hy
    induction U with
    | nil => exact List.pairwise_singleton _ _
    | cons a r ih =>
      obtain ⟨h1, h2⟩ := List.pairwise_cons.1 this
      unfold ins
      split
      · refine List.pairwise_cons.2 ⟨fun x hx => fun e => hg x hx e.symm, this⟩
      · refine List.pairwise_cons.2 ⟨fun x hx => ?_, ih (fun x hx => hg x (by simp [hx])) h2⟩
        rcases mem_ins.1 hx with rfl | hx
        · exact hg a (by simp)
        · exact h1 x hx
/-- A stream is taken out. -/
theorem FaAt.died (h : FaAt w p b V F) {n : Int} (ho : w'.ownsMap Try.prog 26 readP b F.U.length ((UD F.U).del (kw n))) (hf : w.grownBy w' (some b)) : FaAt w' p b V { F with U := less F.U n } := by
  have hF : Fr (fun k => k = b) w w' := Fr.of_grown hf (fun k e => .inl (by simpa using e.symm))
  rw [UD_del] at ho
  exact ⟨hF.row h.row h.pb, own_tight ho, fun x hx => hF.row (h.rows x (mem_less.1 hx).1) (h.gb (mem_less.1 hx).1), List.Pairwise.filter _ h.inj, less_rising h.rise n, fun k hk => own_keep (h.own k hk) hF (fun g e e' => by subst e'; exact h.ob hk e), h.ap⟩
end
end Go.Proofs.Ytjeokomocopjhaa
