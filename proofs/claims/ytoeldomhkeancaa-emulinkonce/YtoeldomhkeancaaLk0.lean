import Derived.Test.YtoeldomhkeancaaDui
import Derived.Test.YtoeldomhkeancaaDub
namespace Go.Proofs.Ytoeldomhkeancaa
open Go.RowKit Go.Maps
set_option maxRecDepth 100000

/-- A link: what it is made of, what it counts, what waits and what flies (with the bytes of each frame by its number), and the values in its cells. -/
structure Lk where
  rate : Int
  delay : Int
  queue : Int
  loss : List Bool
  jit : List Int
  now : Int
  busy : Int
  put : Int
  lost : Int
  full : Int
  come : Int
  wait : Int
  S : List (It Value)
  Fl : List (It Value)
  D : Int → List (BitVec 8)
  lv : Value
  jv : Value
  sv : Value
  fv : Value
def Lk.cells (K : Lk) : List Value := [.int .i64 K.rate, .int .i64 K.delay, .int .i64 K.queue, K.lv, K.jv, .int .u64 K.now, .int .u64 K.busy, .int .u64 K.put, .int .u64 K.lost, .int .u64 K.full, .int .u64 K.come, .int .i64 K.wait, .int .i64 0, K.sv, K.fv]
abbrev Sep (L : List (It Value)) : Prop := L.Pairwise (fun x y => ∀ g, x.what.ownBlock = some g → y.what.ownBlock ≠ some g)
theorem Sep.perm {L L' : List (It Value)} (h : Sep L) (hp : L.Perm L') : Sep L' := List.Pairwise.perm h hp (fun hxy g e e' => hxy g e' e)
/-- Its memory. -/
structure LkAt (w : World) (p : Nat) (K : Lk) : Prop where
  hs : HMi w p 13 K.cells K.sv K.S
  hf : HMb w p 14 K.cells K.fv K.Fl
  lo : w.ownsRow 0 4 1 K.lv K.loss.length (K.loss.map Value.bool)
  ji : w.ownsRow 0 3 1 K.jv K.jit.length (K.jit.map (Value.int .i64))
  by_ : ∀ x ∈ K.Fl, OwnBy w 0 x.what (K.D x.num)
  sep : Sep K.Fl
  ps : Hp K.S.length (kat K.S)
  pf : Hp K.Fl.length (kat K.Fl)
/-- What a call may turn. -/
def Foot (p : Nat) (K : Lk) (k : Nat) : Prop := k = p ∨ K.sv.ownBlock = some k ∨ K.fv.ownBlock = some k
/-- All of it. -/
def Mem (p : Nat) (K : Lk) (k : Nat) : Prop := Foot p K k ∨ K.lv.ownBlock = some k ∨ K.jv.ownBlock = some k ∨ ∃ x ∈ K.Fl, x.what.ownBlock = some k
theorem own_blk {w : World} {base : Nat} {t : TypeId} {sz : Nat} {v : Value} {n : Nat} {xs : List Value} (h : w.ownsRow base t sz v n xs) {g : Nat} (e : v.ownBlock = some g) : ∃ cur, w.heap[g]? = some (.cells cur t (0, 0)) := by
  rcases h.2 with ⟨rfl, _⟩ | ⟨g', cap, cur, rfl, _, hg, _⟩
  · simp [Value.ownBlock] at e
  · simp only [Value.ownBlock, Option.some.injEq] at e
    subst e
    exact ⟨cur, hg⟩
theorem cells_type {w : World} {g : Nat} {c c' : Array Value} {t t' : TypeId} {f f' : Nat × Nat} (h : w.heap[g]? = some (.cells c t f)) (h' : w.heap[g]? = some (.cells c' t' f')) : t = t' := by
  rw [h] at h'
  injection h' with h'
  injection h' with _ h'
/-- Rows of other types lie elsewhere. -/
theorem own_two {w : World} {b b' : Nat} {t t' : TypeId} {sz sz' : Nat} {v v' : Value} {n n' : Nat} {xs xs' : List Value} (h : w.ownsRow b t sz v n xs) (h' : w.ownsRow b' t' sz' v' n' xs') (ht : t ≠ t') {g : Nat} (e : v.ownBlock = some g) : v'.ownBlock ≠ some g := fun e' => by
  obtain ⟨_, h1⟩ := own_blk h e
  obtain ⟨_, h2⟩ := own_blk h' e'
  exact ht (cells_type h1 h2)
theorem own_row {w : World} {b : Nat} {t t' : TypeId} {sz : Nat} {v : Value} {n : Nat} {xs : List Value} {g : Nat} {c : List Value} (h : w.ownsRow b t sz v n xs) (h' : Row w g c t') (ht : t ≠ t') : v.ownBlock ≠ some g := fun e => by
  obtain ⟨_, h1⟩ := own_blk h e
  exact ht (cells_type h1 h'.at_)
section
variable {w w' w'' : World} {p : Nat} {K K' K'' : Lk}
theorem LkAt.lt (h : LkAt w p K) {k : Nat} (hk : Mem p K k) : k < w.heap.size := by
  rcases hk with (rfl | e | e) | e | e | ⟨x, hx, e⟩
  · exact h.hs.row.lt
  · exact own_lt h.hs.own e
  · exact own_lt h.hf.own e
  · exact own_lt h.lo e
  · exact own_lt h.ji e
  · exact own_lt (h.by_ x hx) e
theorem LkAt.kept {S : Nat → Prop} (h : LkAt w p K) (hf : Fr S w w') (hS : ∀ k, Mem p K k → ¬ S k) : LkAt w' p K :=
  ⟨h.hs.kept hf (hS _ (.inl (.inl rfl))) (fun g e => hS g (.inl (.inr (.inl e)))), h.hf.kept hf (hS _ (.inl (.inl rfl))) (fun g e => hS g (.inl (.inr (.inr e)))),
    hf.own h.lo (fun g e => hS g (.inr (.inl e))), hf.own h.ji (fun g e => hS g (.inr (.inr (.inl e)))), fun x hx => hf.own (h.by_ x hx) (fun g e => hS g (.inr (.inr (.inr ⟨x, hx, e⟩)))), h.sep, h.ps, h.pf⟩
theorem LkAt.below (h : LkAt w p K) (hb : Below w.heap.size w w') : LkAt w' p K :=
  h.kept (S := fun _ => False) (Fr.of_below hb (Nat.le_refl _)) (fun _ _ e => e)
theorem LkAt.row (h : LkAt w p K) : Row w p K.cells 38 := h.hs.row
/-- What is not in a call's way. -/
theorem LkAt.apart (h : LkAt w p K) {b : Nat} {t : TypeId} {sz : Nat} {v : Value} {n : Nat} {xs : List Value} (ho : w.ownsRow b t sz v n xs) (h1 : t ≠ 38) (h2 : t ≠ 87) (h3 : t ≠ 70) : ∀ g, v.ownBlock = some g → ¬ Foot p K g := fun g e => by
  rintro (rfl | e' | e')
  · exact own_row ho h.row h1 e
  · exact own_two ho h.hs.own h2 e e'
  · exact own_two ho h.hf.own h3 e e'
end
/-- A call's turn. -/
structure Lm (p : Nat) (K : Lk) (w : World) (K' : Lk) (w' : World) : Prop where
  at_ : LkAt w' p K'
  fr : Fr (Foot p K) w w'
  gr : ∀ k, Foot p K' k → Foot p K k ∨ w.heap.size ≤ k
section
variable {w w' w'' : World} {p : Nat} {K K' K'' : Lk}
theorem Lm.refl (h : LkAt w p K) : Lm p K w K w := ⟨h, Fr.refl _ _, fun _ e => .inl e⟩
theorem Lm.trans (h : Lm p K w K' w') (k : Lm p K' w' K'' w'') : Lm p K w K'' w'' :=
  ⟨k.at_, h.fr.trans k.fr h.gr, fun x hx => by
    rcases k.gr x hx with e | e
    · exact h.gr x e
    · exact .inr (Nat.le_trans h.fr.size e)⟩
theorem Lm.below (h : Lm p K w K' w') (hb : Below w'.heap.size w' w'') : Lm p K w K' w'' :=
  ⟨h.at_.below hb, h.fr.trans (T := fun _ => False) (Fr.of_below hb (Nat.le_refl _)) (fun _ e => e.elim), h.gr⟩
theorem Lm.ahead (hb : Below w.heap.size w w') (h : Lm p K w' K' w'') : Lm p K w K' w'' :=
  ⟨h.at_, (Fr.of_below hb (Nat.le_refl _)).trans h.fr (fun x hx => .inl hx), fun x hx => by
    rcases h.gr x hx with e | e
    · exact .inl e
    · exact .inr (Nat.le_trans hb.size e)⟩
/-- A new block that was turned besides. -/
theorem Lm.fresh (h : Lm p K w K' w') {b : Nat} (hf : Fr (fun k => k = b) w' w'') (hb : w.heap.size ≤ b) (hn : ∀ k, Mem p K' k → k ≠ b) : Lm p K w K' w'' :=
  ⟨h.at_.kept hf (fun k hk e => hn k hk e), h.fr.trans hf (fun x e => .inr (by omega)), h.gr⟩
/-- A cell is another one. -/
theorem LkAt.set (h : LkAt w p K) (j : Nat) (u : Value) (hc : K.cells.set j u = K'.cells) (h13 : j ≠ 13) (h14 : j ≠ 14) (eS : K'.S = K.S) (eF : K'.Fl = K.Fl) (eD : K'.D = K.D) (el : K'.lv = K.lv) (ej : K'.jv = K.jv) (es : K'.sv = K.sv) (ef : K'.fv = K.fv) (ea : K'.loss = K.loss) (eb : K'.jit = K.jit) :
    Lm p K w K' (w.setCell ⟨p, j, none⟩ u) := by
  have hF : Fr (fun k => k = p) w (w.setCell ⟨p, j, none⟩ u) := (Fr.refl _ w).setCell p j u (.inl rfl)
  have hR : Row (w.setCell ⟨p, j, none⟩ u) p K'.cells 38 := hc ▸ h.row.set j u
  refine ⟨⟨?_, ?_, ?_, ?_, ?_, ?_, ?_, ?_⟩, hF.wider (fun k e => .inl e), ?_⟩
  · rw [es, eS]
    exact ⟨hR, by rw [← hc, List.getElem?_set_ne h13]; exact h.hs.get, hF.own h.hs.own (fun g e e' => h.hs.ap (e' ▸ e)), h.hs.one⟩
  · rw [ef, eF]
    exact ⟨hR, by rw [← hc, List.getElem?_set_ne h14]; exact h.hf.get, hF.own h.hf.own (fun g e e' => h.hf.ap (e' ▸ e)), h.hf.one⟩
  · rw [el, ea]; exact hF.own h.lo (fun g e e' => own_row h.lo h.row (by decide) (e' ▸ e))
  · rw [ej, eb]; exact hF.own h.ji (fun g e e' => own_row h.ji h.row (by decide) (e' ▸ e))
  · rw [eF, eD]; exact fun x hx => hF.own (h.by_ x hx) (fun g e e' => own_row (h.by_ x hx) h.row (by decide) (e' ▸ e))
  · rw [eF]; exact h.sep
  · rw [eS]; exact h.ps
  · rw [eF]; exact h.pf
  · unfold Foot; rw [es, ef]; exact fun k e => .inl e
/-- What waits is another row. -/
theorem LkAt.turnS (h : LkAt w p K) {v' : Value} {L' : List (It Value)} (hm : HMi w' p 13 (K.cells.set 13 v') v' L') (hh : Hp L'.length (kat L')) (hf : Fr (fun j => j = p ∨ K.sv.ownBlock = some j) w w') (hn : ∀ g, v'.ownBlock = some g → K.sv.ownBlock = some g ∨ w.heap.size ≤ g) :
    Lm p K w { K with S := L', sv := v' } w' := by
  have hA : ∀ {b : Nat} {t : TypeId} {sz : Nat} {v : Value} {n : Nat} {xs : List Value}, w.ownsRow b t sz v n xs → t ≠ 38 → t ≠ 87 → w'.ownsRow b t sz v n xs := fun ho h1 h2 => hf.own ho (fun g e => by
    rintro (rfl | e')
    · exact own_row ho h.row h1 e
    · exact own_two ho h.hs.own h2 e e')
  refine ⟨⟨hm, ⟨hm.row, ?_, hA h.hf.own (by decide) (by decide), h.hf.one⟩, hA h.lo (by decide) (by decide), hA h.ji (by decide) (by decide), fun x hx => hA (h.by_ x hx) (by decide) (by decide), h.sep, hh, h.pf⟩, hf.wider (fun k e => e.imp id .inl), ?_⟩
  · show (K.cells.set 13 v')[14]? = some K.fv
    rfl
  · rintro k (e | e | e)
    · exact .inl (.inl e)
    · rcases hn k e with e | e
      · exact .inl (.inr (.inl e))
      · exact .inr e
    · exact .inl (.inr (.inr e))
/-- What flies is another row. -/
theorem LkAt.turnF (h : LkAt w p K) {v' : Value} {L' : List (It Value)} {D' : Int → List (BitVec 8)} (hm : HMb w' p 14 (K.cells.set 14 v') v' L') (hh : Hp L'.length (kat L')) (hf : Fr (fun j => j = p ∨ K.fv.ownBlock = some j) w w') (hn : ∀ g, v'.ownBlock = some g → K.fv.ownBlock = some g ∨ w.heap.size ≤ g)
    (hb : ∀ x ∈ L', OwnBy w 0 x.what (D' x.num)) (hs : Sep L') :
    Lm p K w { K with Fl := L', fv := v', D := D' } w' := by
  have hA : ∀ {b : Nat} {t : TypeId} {sz : Nat} {v : Value} {n : Nat} {xs : List Value}, w.ownsRow b t sz v n xs → t ≠ 38 → t ≠ 70 → w'.ownsRow b t sz v n xs := fun ho h1 h2 => hf.own ho (fun g e => by
    rintro (rfl | e')
    · exact own_row ho h.row h1 e
    · exact own_two ho h.hf.own h2 e e')
  refine ⟨⟨⟨hm.row, ?_, hA h.hs.own (by decide) (by decide), h.hs.one⟩, hm, hA h.lo (by decide) (by decide), hA h.ji (by decide) (by decide), fun x hx => hA (hb x hx) (by decide) (by decide), hs, h.ps, hh⟩, hf.wider (fun k e => e.imp id .inr), ?_⟩
  · show (K.cells.set 14 v')[13]? = some K.sv
    rfl
  · rintro k (e | e | e)
    · exact .inl (.inl e)
    · exact .inl (.inr (.inl e))
    · rcases hn k e with e | e
      · exact .inl (.inr (.inr e))
      · exact .inr e
end
end Go.Proofs.Ytoeldomhkeancaa
