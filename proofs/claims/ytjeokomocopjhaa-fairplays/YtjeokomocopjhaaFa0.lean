import Derived.Test.YtjeokomocopjhaaRtBase
import Derived.Maps.Own
import Derived.Maps.OwnOps
import Derived.Maps.OwnSet
import Derived.Maps.RangeWalk
import Derived.Maps.Views
namespace Go.Proofs.Ytjeokomocopjhaa
open Go.RowKit Go.Maps
set_option maxRecDepth 100000

theorem cell_kept {w w' : World} (hb : Below w.heap.size w w') {ad : Addr} {v : Value} (h : w.cell? ad = some v) : w'.cell? ad = some v :=
  (hb.cell (World.block_lt_of_cell? w ad h)).trans h
theorem below_drewN {B : Nat} {a w : World} (h : Below B a w) (q : Nat) : Below B a (w.drewN q) := ⟨h.os, h.tape, h.output, h.size, h.block⟩
/-- Nothing but what S says is another one. -/
structure Fr (S : Nat → Prop) (w w' : World) : Prop where
  os : w'.os = w.os
  tape : w'.tape = w.tape
  output : w'.output = w.output
  size : w.heap.size ≤ w'.heap.size
  block : ∀ k, k < w.heap.size → ¬ S k → w'.heap[k]? = w.heap[k]?
section
variable {S T : Nat → Prop} {w w' w'' : World}
theorem Fr.refl (S : Nat → Prop) (w : World) : Fr S w w := ⟨rfl, rfl, rfl, Nat.le_refl _, fun _ _ _ => rfl⟩
theorem Fr.of_below {B : Nat} (h : Below B w w') (hB : w.heap.size ≤ B) : Fr S w w' := ⟨h.os, h.tape, h.output, h.size, fun k hk _ => h.block k (by omega)⟩
theorem Fr.trans (h : Fr S w w') (k : Fr T w' w'') (hT : ∀ x, T x → S x ∨ w.heap.size ≤ x) : Fr S w w'' :=
  ⟨k.os.trans h.os, k.tape.trans h.tape, k.output.trans h.output, Nat.le_trans h.size k.size, fun x hx hS => (k.block x (Nat.lt_of_lt_of_le hx h.size) (fun ht => by rcases hT x ht with e | e; exact hS e; omega)).trans (h.block x hx hS)⟩
theorem Fr.wider (h : Fr S w w') (hT : ∀ x, S x → T x) : Fr T w w' := ⟨h.os, h.tape, h.output, h.size, fun k hk hp => h.block k hk (fun hm => hp (hT k hm))⟩
theorem Fr.of_grown {r : Option Nat} (h : w.grownBy w' r) (hr : ∀ k, r = some k → S k ∨ w.heap.size ≤ k) : Fr S w w' :=
  ⟨h.os, h.tape, h.output, h.size, fun k hk hS => h.block k hk (fun e => by rcases hr k e.symm with e | e; exact hS e; omega)⟩
theorem Fr.of_only {L : List Nat} (h : Only L w w') (hr : ∀ k ∈ L, S k ∨ w.heap.size ≤ k) : Fr S w w' :=
  ⟨h.os, h.tape, h.output, h.size, fun k hk hS => h.block k hk (fun e => by rcases hr k e with e | e; exact hS e; omega)⟩
theorem Fr.cell (h : Fr S w w') {a : Addr} {v : Value} (hc : w.cell? a = some v) (hS : ¬ S a.block) : w'.cell? a = some v := by
  have hl := World.block_lt_of_cell? w a hc
  rw [← hc]
  unfold World.cell?
  rw [h.block a.block hl hS]
theorem Fr.row (h : Fr S w w') {g : Nat} {c : List Value} {t : TypeId} (hr : Row w g c t) (hS : ¬ S g) : Row w' g c t := ⟨(h.block g hr.lt hS).trans hr.at_⟩
theorem Fr.below {B : Nat} (h : Fr S w w') (hS : ∀ x, S x → B ≤ x) (hB : B ≤ w.heap.size) : Below B w w' :=
  ⟨h.os, h.tape, h.output, h.size, fun k hk => h.block k (by omega) (fun e => by have := hS k e; omega)⟩
theorem Fr.drewN (h : Fr S w w') (q : Nat) : Fr S w (w'.drewN q) := ⟨h.os, h.tape, h.output, h.size, h.block⟩
theorem Fr.setCell (h : Fr S w w') (g o : Nat) (v : Value) (hS : S g ∨ w.heap.size ≤ g) : Fr S w (w'.setCell ⟨g, o, none⟩ v) :=
  h.trans (T := fun k => k = g) ⟨rfl, rfl, rfl, by simp, fun k _ hk => Below.heap_setCell w' ⟨g, o, none⟩ v k hk⟩ (fun x e => by rw [e]; exact hS)
theorem Fr.alloc (h : Fr S w w') (o : Obj) : Fr S w (w'.alloc o) := h.trans (T := fun _ => False) (Fr.of_below ((Below.refl _ _).alloc (Nat.le_refl _) o) (Nat.le_refl _)) (fun _ e => e.elim)
end
/-- A stream: its class, its share, how many bytes of it wait, its credit. -/
structure Ss where
  cls : Nat
  shr : Int
  wt : Int
  cr : Int
/-- A stream: its number, where it lies, what it is. -/
structure Ln where
  num : Int
  g : Nat
  s : Ss
def Ln.cells (x : Ln) : List Value := [.int .u64 x.num, .int .i64 x.s.cls, .int .i64 x.s.shr, .int .i64 x.s.wt, .int .i64 x.s.cr]
abbrev DM := DataW Nat
abbrev kw (n : Int) : Lit := .int .u64 n
def readP (v : Value) : Option (DM × List MemPlace) :=
  match v with
  | .pointer none => some (.nil, [])
  | .pointer (some ⟨g, 0, none⟩) => some (.held g, [])
  | _ => none
def ptrV : Option Nat → Value
  | none => .pointer none
  | some g => .pointer (some ⟨g, 0, none⟩)
theorem readP_nil {v : Value} {ps : List MemPlace} (h : readP v = some (.nil, ps)) : v = .pointer none := by
  unfold readP at h
  split at h
  · rfl
  · cases h
  · cases h
theorem readP_held {v : Value} {g : Nat} {ps : List MemPlace} (h : readP v = some (.held g, ps)) : v = .pointer (some ⟨g, 0, none⟩) := by
  unfold readP at h
  split at h
  · cases h
  · simp only [Option.some.injEq, Prod.mk.injEq, DataW.held.injEq] at h
    rw [h.1]
  · cases h
def UD (U : List Ln) : DM := .map (U.map fun x => (kw x.num, .held x.g))
def Rising (U : List Ln) : Prop := U.Pairwise (fun a b => a.num < b.num)
theorem kw_same (a b : Int) : (kw a).sameKey (kw b) = decide (a = b) := by simp [Lit.sameKey]
/-- A stream is laid in by its number. -/
def ins (y : Ln) : List Ln → List Ln
  | [] => [y]
  | a :: r => if y.num < a.num then y :: a :: r else a :: ins y r
theorem insert_map (y : Ln) : ∀ (U : List Ln), DataW.insert (kw y.num, (.held y.g : DM)) (U.map fun x => (kw x.num, .held x.g)) = (ins y U).map fun x => (kw x.num, .held x.g)
  | [] => rfl
  | a :: r => by
    simp only [List.map_cons, DataW.insert, ins]
    by_cases h : y.num < a.num
    · rw [if_pos (by simp [Lit.before]; omega), if_pos h]; rfl
    · rw [if_neg (by simp [Lit.before]; omega), if_neg h, insert_map y r]; rfl
theorem mem_ins {y x : Ln} : ∀ {U : List Ln}, x ∈ ins y U ↔ x = y ∨ x ∈ U
  | [] => by simp [ins]
  | a :: r => by
    unfold ins
    split
    · simp
    · simp only [List.mem_cons, mem_ins (U := r)]
      constructor
      · rintro (h | h | h)
        · exact .inr (.inl h)
        · exact .inl h
        · exact .inr (.inr h)
      · rintro (h | h | h)
        · exact .inr (.inl h)
        · exact .inl h
        · exact .inr (.inr h)
theorem ins_rising {y : Ln} : ∀ {U : List Ln}, Rising U → (∀ x ∈ U, x.num ≠ y.num) → Rising (ins y U)
  | [], _, _ => List.pairwise_singleton _ _
  | a :: r, h, hn => by
    obtain ⟨h1, h2⟩ := List.pairwise_cons.1 h
    have ha := hn a (by simp)
    unfold ins
    split
    · refine List.pairwise_cons.2 ⟨fun x hx => ?_, h⟩
      rcases List.mem_cons.1 hx with rfl | hx
      · assumption
      · have := h1 x hx; omega
    · refine List.pairwise_cons.2 ⟨fun x hx => ?_, ins_rising h2 (fun x hx => hn x (by simp [hx]))⟩
      rcases mem_ins.1 hx with rfl | hx
      · omega
      · exact h1 x hx
theorem ins_len (y : Ln) : ∀ U : List Ln, (ins y U).length = U.length + 1
  | [] => rfl
  | a :: r => by
    unfold ins
    split
    · rfl
    · simp [ins_len y r]
theorem UD_put {U : List Ln} {y : Ln} (h : ∀ x ∈ U, x.num ≠ y.num) : (UD U).put (kw y.num) (.held y.g) = UD (ins y U) := by
  have e : (U.map fun x => (kw x.num, (.held x.g : DM))).filter (fun p => !p.1.sameKey (kw y.num)) = U.map fun x => (kw x.num, .held x.g) := by
    rw [List.filter_eq_self]
    intro p hp
    obtain ⟨x, hx, rfl⟩ := List.mem_map.1 hp
    have := h x hx
    simp only [kw_same]
    simp
    omega
  unfold UD DataW.put
  simp only
  rw [e, insert_map y U]
/-- A stream is taken out. -/
def less (U : List Ln) (n : Int) : List Ln := U.filter fun x => decide (x.num ≠ n)
theorem UD_del (U : List Ln) (n : Int) : (UD U).del (kw n) = UD (less U n) := by
  unfold UD DataW.del less
  simp only
  rw [List.filter_map]
  congr 2
  apply List.filter_congr
  intro x _
  simp [kw_same]
theorem UD_size (U : List Ln) : Maps.size (UD U) = U.length := by simp [UD, Maps.size]
theorem UD_has (U : List Ln) (n : Int) : Maps.has (UD U) (kw n) = U.any (fun x => decide (x.num = n)) := by
  unfold UD
  rw [has_eq, List.any_map]
  congr 1
  funext x
  simp [kw_same]
/-- The stream of a number. -/
def fnd (U : List Ln) (n : Int) : Option Ln := U.find? fun x => decide (x.num = n)
theorem UD_at (U : List Ln) (n : Int) : (UD U).atKey (kw n) .nil = match fnd U n with | some x => .held x.g | none => .nil := by
  unfold UD DataW.atKey fnd
  simp only
  rw [List.find?_map]
  have e : ((fun p : Lit × DM => p.1.sameKey (kw n)) ∘ fun x : Ln => (kw x.num, DataW.held x.g)) = fun x => decide (x.num = n) := by
    funext x; simp [kw_same]
  rw [e]
  cases List.find? (fun x => decide (x.num = n)) U <;> rfl
theorem fnd_some {U : List Ln} {n : Int} {x : Ln} (h : fnd U n = some x) : x ∈ U ∧ x.num = n := ⟨List.mem_of_find?_eq_some h, by simpa using List.find?_some h⟩
theorem fnd_none {U : List Ln} {n : Int} (h : fnd U n = none) : ∀ x ∈ U, x.num ≠ n := fun x hx e => by
  have := List.find?_eq_none.1 h x hx
  simp [e] at this
theorem Rising.inj : ∀ {U : List Ln}, Rising U → ∀ {x y : Ln}, x ∈ U → y ∈ U → x.num = y.num → x = y
  | [], _, _, _, hx, _, _ => by simp at hx
  | a :: r, h, x, y, hx, hy, e => by
    obtain ⟨h1, h2⟩ := List.pairwise_cons.1 h
    rcases List.mem_cons.1 hx with ex | hx' <;> rcases List.mem_cons.1 hy with ey | hy'
    · rw [ex, ey]
    · have := h1 y hy'; rw [ex] at e; omega
    · have := h1 x hx'; rw [ey] at e; omega
    · exact Rising.inj h2 hx' hy' e
theorem fnd_of {U : List Ln} (hU : Rising U) {x : Ln} (hx : x ∈ U) : fnd U x.num = some x := by
  cases h : fnd U x.num with
  | none => exact absurd rfl (fnd_none h x hx)
  | some y =>
    obtain ⟨h1, h2⟩ := fnd_some h
    rw [hU.inj h1 hx h2]
/-- A stream is another one. -/
def upd (U : List Ln) (n : Int) (s : Ss) : List Ln := U.map fun x => if x.num = n then { x with s := s } else x
theorem UD_upd (U : List Ln) (n : Int) (s : Ss) : UD (upd U n s) = UD U := by
  unfold UD upd
  rw [List.map_map]
  congr 1
  apply List.map_congr_left
  intro x _
  show ((kw (if x.num = n then { x with s := s } else x).num, DataW.held (if x.num = n then { x with s := s } else x).g) : Lit × DM) = _
  split <;> rfl
theorem upd_rising {U : List Ln} (h : Rising U) (n : Int) (s : Ss) : Rising (upd U n s) := by
  unfold Rising upd
  rw [List.pairwise_map]
  refine h.imp ?_
  intro a b hab
  split <;> split <;> exact hab
theorem mem_upd {U : List Ln} {n : Int} {s : Ss} {y : Ln} : y ∈ upd U n s ↔ ∃ x ∈ U, y = if x.num = n then { x with s := s } else x := by
  unfold upd
  simp only [List.mem_map]
  constructor
  · rintro ⟨x, h, rfl⟩; exact ⟨x, h, rfl⟩
  · rintro ⟨x, h, rfl⟩; exact ⟨x, h, rfl⟩
theorem upd_len (U : List Ln) (n : Int) (s : Ss) : (upd U n s).length = U.length := by simp [upd]
theorem less_rising {U : List Ln} (h : Rising U) (n : Int) : Rising (less U n) := List.Pairwise.filter _ h
theorem mem_less {U : List Ln} {n : Int} {x : Ln} : x ∈ less U n ↔ x ∈ U ∧ x.num ≠ n := by simp [less]
theorem law26 : Keyed Try.prog 26 := int_keyed Try.underlying26
theorem key26 {n : Int} (h0 : 0 ≤ n) (h1 : n ≤ 18446744073709551615) : keyOf Try.prog 26 (.int .u64 n) = some (kw n) :=
  keyOf_int_mk Try.underlying26 (by simp [Lit.wf, show IntKind.u64.min = 0 by decide, show IntKind.u64.max = 18446744073709551615 by decide]; omega)
theorem zero58 (w : World) : (zeroValue 58).run Try.prog w = .ok (.pointer none) w := by kernel_rfl
abbrev OwnU (w : World) (b : Nat) (U : List Ln) : Prop := w.ownsMap Try.prog 26 readP b U.length (UD U)
theorem own_tight {w : World} {b n : Nat} {U : List Ln} (h : w.ownsMap Try.prog 26 readP b n (UD U)) : OwnU w b U := by
  obtain ⟨es, clock, hb, F, hs, hD⟩ := h
  refine ⟨es, clock, hb, F, ?_, hD⟩
  have e : Maps.size (UD U) = es.size := by rw [hD]; simp [Maps.size, length_sorted]
  rw [UD_size] at e
  omega
theorem OwnU.block {w w' : World} {b : Nat} {U : List Ln} (h : OwnU w b U) (e : w'.heap[b]? = w.heap[b]?) : OwnU w' b U := by
  obtain ⟨es, clock, hb, F, hs, hD⟩ := h
  exact ⟨es, clock, e.trans hb, F, hs, hD⟩
/-- What a look-up gives. -/
theorem look_any {w : World} {b : Nat} {U : List Ln} (h : OwnU w b U) {n : Int} (h0 : 0 ≤ n) (h1 : n ≤ 18446744073709551615) :
    (Instr.lookup 53 (.map (some b)) (.int .u64 n) false).run Try.prog w = .ok (ptrV ((fnd U n).map Ln.g)) w := by
  obtain ⟨v, ps, hr, hv⟩ := World.ownsMap.lookup h law26 Try.underlying53 (zero58 w) (zd := .nil) (zp := []) rfl (key26 h0 h1)
  rw [UD_at] at hv
  rw [hr]
  cases e : fnd U n with
  | none => rw [e] at hv; rw [readP_nil hv]; rfl
  | some x => rw [e] at hv; rw [readP_held hv]; rfl
end Go.Proofs.Ytjeokomocopjhaa
