import Derived.Test.YtfhjiggaacgncaaDoorJs4
namespace Go.Proofs.YtfhjiggaacgncaaDoor
open Go.RowKit Go.Maps Go.Sort
set_option maxRecDepth 100000

theorem info30 : ∃ i : TypeInfo, Tryd.prog.info? 30 = some i ∧ i.zero = some (.slice none 0 0) ∧ i.size = 1 ∧ i.bytes = 24 := by
  have h : (Tryd.prog.info? 30).map (fun i => (i.zero, i.size, i.bytes)) = some (some (.slice none 0 0), 1, 24) := by kernel_rfl
  cases hq : Tryd.prog.info? 30 with
  | none => rw [hq] at h; cases h
  | some i => rw [hq] at h; simp at h; exact ⟨i, rfl, h.1, h.2.1, h.2.2⟩
/-- A kind behind an own row of them. -/
theorem push5 {w : World} {base : Nat} {v : Value} {L : List (BitVec 8)} {r : BitVec 8} {bx : Nat} (h : w.ownsRow base 5 1 v L.length (bcells L)) (hbase : base ≤ w.heap.size) (hl : L.length ≤ 1099511627776) (h0 : w.cell? ⟨bx, 0, none⟩ = some (.int .u8 (ub r))) (ty : TypeId) :
    ∃ v' w', (Builtin.append_ #[30, 30] ty #[v, .slice (some ⟨bx, 0, none⟩) 1 1]).run Tryd.prog w = .ok v' w' ∧ w'.ownsRow base 5 1 v' (L.length + 1) (bcells (L ++ [r])) ∧ Fr (fun k => v.ownBlock = some k) w w' ∧ ∀ g, v'.ownBlock = some g → v.ownBlock = some g ∨ w.heap.size ≤ g := by
  obtain ⟨i, h1, h2, h3, h4⟩ := info5
  obtain ⟨v', w', hr, ho, hg, _, ha⟩ := run_append_own_at (P := Tryd.prog) w base 30 ty 5 i (.int .u8 0) 1 1 Tryd.underlying30 h1 h2 h3 h4 rfl (by decide) v L.length (bcells L) h ⟨bx, 0, none⟩ 1 1 (bcells [r]) rfl (fun j u hu => by
    have hj : j < 1 := (List.getElem?_eq_some_iff.1 hu).1
    rw [Addr.add_mid, Nat.zero_add]
    obtain rfl : j = 0 := by omega
    rw [h0, ← hu]; rfl) (bcells_one _) (by unfold maxLen; omega) (by omega) hbase
  refine ⟨v', w', hr, ?_, Fr.of_grown hg (fun k e => .inl e), fun g e => ?_⟩
  · rw [show bcells (L ++ [r]) = bcells L ++ bcells [r] by simp [bcells]]
    exact ho
  · rcases ha with e' | e'
    · exact .inl (e' ▸ e)
    · rw [e'] at e
      injection e with e
      exact .inr (Nat.le_of_eq e)
/-- Bytes behind an own row of slices. -/
theorem push30 {w : World} {base : Nat} {v : Value} {L : List Value} {x : Value} {bx : Nat} (h : w.ownsRow base 30 1 v L.length L) (hbase : base ≤ w.heap.size) (hl : L.length ≤ 1099511627776) (h0 : w.cell? ⟨bx, 0, none⟩ = some x) (hx : x.oneCell' = true) (ty : TypeId) :
    ∃ v' w', (Builtin.append_ #[44, 44] ty #[v, .slice (some ⟨bx, 0, none⟩) 1 1]).run Tryd.prog w = .ok v' w' ∧ w'.ownsRow base 30 1 v' (L.length + 1) (L ++ [x]) ∧ Fr (fun k => v.ownBlock = some k) w w' ∧ ∀ g, v'.ownBlock = some g → v.ownBlock = some g ∨ w.heap.size ≤ g := by
  obtain ⟨i, h1, h2, h3, h4⟩ := info30
  obtain ⟨v', w', hr, ho, hg, _, ha⟩ := run_append_own_at (P := Tryd.prog) w base 44 ty 30 i (.slice none 0 0) 1 24 Tryd.underlying44 h1 h2 h3 h4 rfl (by decide) v L.length L h ⟨bx, 0, none⟩ 1 1 [x] rfl (fun j u hu => by
    have hj : j < 1 := (List.getElem?_eq_some_iff.1 hu).1
    rw [Addr.add_mid, Nat.zero_add]
    obtain rfl : j = 0 := by omega
    rw [h0, ← hu]; rfl) (fun u hu => by
      obtain rfl : u = x := by simpa using hu
      exact hx) (by unfold maxLen; omega) (by omega) hbase
  refine ⟨v', w', hr, ho, Fr.of_grown hg (fun k e => .inl e), fun g e => ?_⟩
  rcases ha with e' | e'
  · exact .inl (e' ▸ e)
  · rw [e'] at e
    injection e with e
    exact .inr (Nat.le_of_eq e)
/-- The book with a kind more, whose body is yet to come. -/
structure PbK (w : World) (base : Nat) (F : Pb) (r : BitVec 8) (kv : Value) : Prop where
  row : Row w F.b [kv, F.bv] 46
  hb : base ≤ F.b
  kinds : w.ownsRow base 5 1 kv (F.V.length + 1) (bcells (F.V.map (·.2.1) ++ [r]))
  bodies : w.ownsRow base 30 1 F.bv F.V.length (F.V.map (·.1))
  by_ : ∀ x ∈ F.V, OwnBy w base x.1 x.2.2
  ap : ∀ x ∈ F.V, ∀ g, x.1.ownBlock = some g → kv.ownBlock ≠ some g
def Pb.MemK (F : Pb) (kv : Value) (k : Nat) : Prop := k = F.b ∨ kv.ownBlock = some k ∨ F.bv.ownBlock = some k ∨ ∃ x ∈ F.V, x.1.ownBlock = some k
section
variable {w w1 w2 : World} {base : Nat} {F : Pb} {r : BitVec 8} {kv : Value}
theorem own_type {t t' : TypeId} {sz sz' : Nat} {v v' : Value} {m m' b b' : Nat} {xs xs' : List Value} (h : w.ownsRow b t sz v m xs) (h' : w.ownsRow b' t' sz' v' m' xs') (ht : t ≠ t') {x : Nat} (e : v.ownBlock = some x) : v'.ownBlock ≠ some x := fun e' => by
  obtain ⟨c1, g1⟩ := own_blk h e
  obtain ⟨c2, g2⟩ := own_blk h' e'
  exact ht (cells_type g1 g2)
theorem own_row {t t' : TypeId} {sz : Nat} {v : Value} {m b g : Nat} {xs cs : List Value} (h : w.ownsRow b t sz v m xs) (h' : Row w g cs t') (ht : t ≠ t') {x : Nat} (e : v.ownBlock = some x) : x ≠ g := fun e' => by
  obtain ⟨c1, g1⟩ := own_blk h e
  subst e'
  exact ht (cells_type g1 h'.at_)
theorem pb_kinds {v' : Value} (h : PbAt w base F) (hb1 : Below w.heap.size w w1) (hk : w2.ownsRow base 5 1 v' (F.V.length + 1) (bcells (F.V.map (·.2.1) ++ [r]))) (hF2 : Fr (fun k => F.kv.ownBlock = some k) w1 w2) (hn : ∀ g, v'.ownBlock = some g → F.kv.ownBlock = some g ∨ w1.heap.size ≤ g) :
    PbK (w2.setCell ⟨F.b, 0, none⟩ v') base F r v' ∧ Fr (fun x => x = F.b ∨ F.kv.ownBlock = some x) w (w2.setCell ⟨F.b, 0, none⟩ v') ∧ (∀ x, F.MemK v' x → F.Mem x ∨ w.heap.size ≤ x) ∧ Row w2 F.b [F.kv, F.bv] 46 := by
  have hs := hb1.size
  have f2 : Fr (fun k => F.kv.ownBlock = some k) w w2 := (Fr.of_below hb1 (Nat.le_refl _)).trans hF2 (fun _ e => .inl e)
  have hr2 : Row w2 F.b [F.kv, F.bv] 46 := f2.row h.row (fun e => own_row h.kinds h.row (by decide) e rfl)
  have f3 : Fr (fun x => x = F.b ∨ F.kv.ownBlock = some x) w (w2.setCell ⟨F.b, 0, none⟩ v') := (f2.wider (fun _ e => .inr e)).setCell F.b 0 v' (.inl (.inl rfl))
  refine ⟨⟨hr2.set 0 v', h.hb, ?_, ?_, fun x hx => ?_, fun x hx g e e' => ?_⟩, f3, ?_, hr2⟩
  · exact ((Fr.refl (fun x => x = F.b) w2).setCell F.b 0 v' (.inl rfl)).own hk (fun x e => own_row hk hr2 (by decide) e)
  · refine f3.own h.bodies (fun x e => ?_)
    rintro (e' | e')
    · exact own_row h.bodies h.row (by decide) e e'
    · exact own_type h.bodies h.kinds (by decide) e e'
  · refine f3.own (h.by_ x hx) (fun g e => ?_)
    rintro (e' | e')
    · exact own_row (h.by_ x hx) h.row (by decide) e e'
    · exact h.ap x hx g e e'
  · rcases hn g e' with e2 | e2
    · exact h.ap x hx g e e2
    · have := own_lt (h.by_ x hx) e
      omega
  · rintro x (e | e | e | e)
    · exact .inl (.inl e)
    · rcases hn x e with e' | e'
      · exact .inl (.inr (.inl e'))
      · exact .inr (by omega)
    · exact .inl (.inr (.inr (.inl e)))
    · exact .inl (.inr (.inr (.inr e)))
theorem pb_bodies {v v' : Value} {bs : List (BitVec 8)} (h : PbK w base F r kv) (hb1 : Below w.heap.size w w1) (hv : OwnBy w1 w.heap.size v bs) (hk : w2.ownsRow base 30 1 v' (F.V.length + 1) (F.V.map (·.1) ++ [v])) (hF2 : Fr (fun k => F.bv.ownBlock = some k) w1 w2) (hn : ∀ g, v'.ownBlock = some g → F.bv.ownBlock = some g ∨ w1.heap.size ≤ g) :
    PbAt (w2.setCell ⟨F.b, 1, none⟩ v') base ⟨F.b, kv, v', F.V ++ [(v, (r, bs))]⟩ ∧ Fr (fun x => x = F.b ∨ F.bv.ownBlock = some x) w (w2.setCell ⟨F.b, 1, none⟩ v') ∧ (∀ x, Pb.Mem ⟨F.b, kv, v', F.V ++ [(v, (r, bs))]⟩ x → F.MemK kv x ∨ w.heap.size ≤ x) ∧ Row w2 F.b [kv, F.bv] 46 := by
  have hs := hb1.size
  have hbw : base ≤ w.heap.size := Nat.le_trans h.hb (Nat.le_of_lt h.row.lt)
  have f2 : Fr (fun k => F.bv.ownBlock = some k) w w2 := (Fr.of_below hb1 (Nat.le_refl _)).trans hF2 (fun _ e => .inl e)
  have hr2 : Row w2 F.b [kv, F.bv] 46 := f2.row h.row (fun e => own_row h.bodies h.row (by decide) e rfl)
  have f3 : Fr (fun x => x = F.b ∨ F.bv.ownBlock = some x) w (w2.setCell ⟨F.b, 1, none⟩ v') := (f2.wider (fun _ e => .inr e)).setCell F.b 1 v' (.inl (.inl rfl))
  have hv2 : OwnBy w2 base v bs := own_less (hF2.own hv (fun x e e' => own_type hv (own_below h.bodies hb1) (by decide) e e')) hbw
  have hlen : (F.V ++ [(v, (r, bs))]).length = F.V.length + 1 := by simp
  refine ⟨⟨hr2.set 1 v', h.hb, ?_, ?_, fun x hx => ?_, fun x hx g e e' => ?_⟩, f3, ?_, hr2⟩
  · show World.ownsRow _ _ _ _ kv (F.V ++ [(v, (r, bs))]).length (bcells ((F.V ++ [(v, (r, bs))]).map (·.2.1)))
    rw [hlen, List.map_append]
    refine f3.own h.kinds (fun x e => ?_)
    rintro (e' | e')
    · exact own_row h.kinds h.row (by decide) e e'
    · exact own_type h.kinds h.bodies (by decide) e e'
  · show World.ownsRow _ _ _ _ v' (F.V ++ [(v, (r, bs))]).length ((F.V ++ [(v, (r, bs))]).map (·.1))
    rw [hlen, List.map_append]
    exact ((Fr.refl (fun x => x = F.b) w2).setCell F.b 1 v' (.inl rfl)).own hk (fun x e => own_row hk hr2 (by decide) e)
  · rcases List.mem_append.1 (show x ∈ F.V ++ [(v, (r, bs))] from hx) with hx | hx
    · refine f3.own (h.by_ x hx) (fun g e => ?_)
      rintro (e' | e')
      · exact own_row (h.by_ x hx) h.row (by decide) e e'
      · exact own_type (h.by_ x hx) h.bodies (by decide) e e'
    · obtain rfl : x = (v, (r, bs)) := by simpa using hx
      exact ((Fr.refl (fun x => x = F.b) w2).setCell F.b 1 v' (.inl rfl)).own hv2 (fun x e => own_row hv2 hr2 (by decide) e)
  · rcases List.mem_append.1 (show x ∈ F.V ++ [(v, (r, bs))] from hx) with hx | hx
    · exact h.ap x hx g e e'
    · obtain rfl : x = (v, (r, bs)) := by simpa using hx
      have h1 := own_ge hv e
      have h2 := own_lt h.kinds e'
      omega
  · rintro x (e | e | e | ⟨y, hy, e⟩)
    · exact .inl (.inl e)
    · exact .inl (.inr (.inl e))
    · rcases hn x e with e' | e'
      · exact .inl (.inr (.inr (.inl e')))
      · exact .inr (by omega)
    · rcases List.mem_append.1 (show y ∈ F.V ++ [(v, (r, bs))] from hy) with hy | hy
      · exact .inl (.inr (.inr (.inr ⟨y, hy, e⟩)))
      · obtain rfl : y = (v, (r, bs)) := by simpa using hy
        exact .inr (own_ge hv e)
theorem PbK.fr {X : Nat → Prop} (h : PbK w base F r kv) (hf : Fr X w w1) (hX : ∀ k, F.MemK kv k → ¬ X k) : PbK w1 base F r kv :=
  ⟨hf.row h.row (hX _ (.inl rfl)), h.hb, hf.own h.kinds (fun x e => hX x (.inr (.inl e))), hf.own h.bodies (fun x e => hX x (.inr (.inr (.inl e)))), fun x hx => hf.own (h.by_ x hx) (fun g e => hX g (.inr (.inr (.inr ⟨x, hx, e⟩)))), h.ap⟩
theorem PbK.kept (h : PbK w base F r kv) (hb : Below w.heap.size w w1) : PbK w1 base F r kv := h.fr (X := fun _ => False) (Fr.of_below hb (Nat.le_refl _)) (fun _ _ e => e)
theorem PbK.lt (h : PbK w base F r kv) {k : Nat} (hk : F.MemK kv k) : k < w.heap.size := by
  rcases hk with rfl | e | e | ⟨x, hx, e⟩
  · exact h.row.lt
  · exact own_lt h.kinds e
  · exact own_lt h.bodies e
  · exact own_lt (h.by_ x hx) e
end
theorem bslk (w : World) (x : Int) : (Instr.buildSlice 30 1 #[(0, .int .u8 x)]).run Tryd.prog w = .ok (.slice (some ⟨w.heap.size, 0, none⟩) 1 1) (w.alloc (.cells #[.int .u8 x] 5)) := by kernel_rfl
theorem bslb (w : World) (a : Option Addr) (n c : Nat) : (Instr.buildSlice 44 1 #[(0, .slice a n c)]).run Tryd.prog w = .ok (.slice (some ⟨w.heap.size, 0, none⟩) 1 1) (w.alloc (.cells #[.slice a n c] 30)) := by kernel_rfl
end Go.Proofs.YtfhjiggaacgncaaDoor
