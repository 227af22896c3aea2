import Derived.Test.YtbkfmknjbdonlaaTold
namespace Go.Proofs.Ytbkfmknjbdonlaa
open Go.RowKit Go.Maps
set_option maxRecDepth 100000

/-- One call of a script, as it lies. -/
structure OpV where
  kind : Int
  other : Bool
  now : Int
  item : Int
  off : Int
  n : Int
  a : Option Addr
  cap : Nat
  L : List Rg
instance : Inhabited OpV := ⟨⟨0, false, 0, 0, 0, 0, none, 0, []⟩⟩
def OpV.cells (o : OpV) : List Value := [.int .i64 o.kind, .bool o.other, .int .u64 o.now, .int .i64 o.item, .int .u64 o.off, .int .i64 o.n, .slice o.a o.L.length o.cap]
structure OpV.Ok (o : OpV) : Prop where
  n0 : 0 ≤ o.now
  n1 : o.now ≤ 18446744073709551615
  rs : ∀ r ∈ o.L, 0 ≤ r.1 ∧ r.2 ≤ 18446744073709551615
  ln : (o.L.length + 4) * 16 ≤ 140737488355328
def OpsAt (w : World) (a : Option Addr) (S : List OpV) : Prop := ∀ k (h : k < S.length), ∃ g o, a = some ⟨g, o, none⟩ ∧ (∀ j v, S[k].cells[j]? = some v → w.cell? ⟨g, o + k * 7 + j, none⟩ = some v) ∧ RgsAt w S[k].a S[k].L
theorem OpsAt.kept {w w' : World} {a : Option Addr} {S : List OpV} (h : OpsAt w a S) (hb : Below w.heap.size w w') : OpsAt w' a S := fun i hi => by
  obtain ⟨g, o, e, h1, h2⟩ := h i hi
  exact ⟨g, o, e, fun j v hv => rcell_kept hb (h1 j v hv), h2.kept hb⟩
/-- How a row of bools is read and written. -/
theorem own_viewB {w : World} {base : Nat} {v : Value} {G : List Bool} (h : w.ownsRow base 4 1 v G.length (G.map Value.bool)) : ∃ a cap, v = .slice a G.length cap ∧ ∀ k (hk : k < G.length), ∃ g, a = some ⟨g, 0, none⟩ ∧ base ≤ g ∧ w.cell? ⟨g, k, none⟩ = some (.bool G[k]) ∧ w.frozen? ⟨g, k, none⟩ = false ∧
    ∀ u : Bool, (w.setCell ⟨g, k, none⟩ (.bool u)).ownsRow base 4 1 v (G.set k u).length ((G.set k u).map Value.bool) := by
  rcases h.2 with ⟨rfl, h0⟩ | ⟨g, cap, cur, rfl, h1, h2, h3, h4, h5, h6⟩
  · exact ⟨none, 0, by rw [h0], fun k hk => by omega⟩
  · refine ⟨_, cap, rfl, fun k hk => ⟨g, rfl, h1, ?_, frozen_of_row _ _ _ _ _ h2, fun u => ⟨by simp, .inr ⟨g, cap, cur.set! k (.bool u), by simp, h1, ?_, by simpa using h3, h4, by simp; omega, ?_⟩⟩⟩⟩
    · rw [cell_of_row w g _ _ _ _ h2]
      have := congrArg (fun l => l[k]?) h6
      simp only [Nat.mul_one] at this
      rw [List.getElem?_take_of_lt hk] at this
      simpa [hk] using this
    · rw [setCell_eq_setRow w g k cur 4 (0, 0) (.bool u) h2, setRow_heap w g _ _ 4 (0, 0) h2]
      congr 2
    · simp only [List.length_set, Nat.mul_one] at h6 ⊢
      rw [List.map_set, ← h6]
      simp only [Array.set!_eq_setIfInBounds, Array.toList_setIfInBounds]
      rw [List.take_set]
structure MkAt (w wr : World) (B p b g : Nat) (F : Fl) (V : List It) (T : List It) (G : List Bool) (s6 s7 : Value) (R : List It) : Prop where
  fl : FlowAt wr p b g F
  ok : F.Ok
  bel : Below w.heap.size w wr
  num : ∀ i (h : i < T.length), T[i].num = (i : Int)
  at0 : ∀ x ∈ T, 0 ≤ x.at_
  len : G.length = T.length
  nx : F.next = (T.length : Int)
  un : ∀ x, (x ∈ V ∨ x ∈ R) ↔ ∃ i, ∃ h : i < T.length, T[i] = x ∧ G[i]? = some false
  nd : R.Nodup
  ap : ∀ x ∈ R, x ∉ V
  sent : wr.ownsRow B 60 5 s6 T.length (flatI T)
  gone : wr.ownsRow B 4 1 s7 G.length (G.map Value.bool)
  lt : p < B ∧ b < B ∧ g < B
section
variable {w wr wu : World} {B p b g : Nat} {F F' : Fl} {V : List It} {T : List It} {G : List Bool} {s6 s7 : Value} {R : List It}
theorem MkAt.kept (m : MkAt w wr B p b g F V T G s6 s7 R) (hb : Below wr.heap.size wr wu) : MkAt w wu B p b g F V T G s6 s7 R :=
  ⟨m.fl.kept hb, m.ok, m.bel.trans (hb.mono m.bel.size), m.num, m.at0, m.len, m.nx, m.un, m.nd, m.ap, own_below m.sent hb, own_below m.gone hb, m.lt⟩
theorem MkAt.u_at (m : MkAt w wr B p b g F F.U T G s6 s7 R) : ∀ x ∈ F.U, 0 ≤ x.at_ := fun x hx => by
  obtain ⟨i, hi, rfl, _⟩ := (m.un x).1 (.inl hx)
  exact m.at0 _ (List.getElem_mem hi)
theorem MkAt.u_len (m : MkAt w wr B p b g F F.U T G s6 s7 R) : F.U.length ≤ T.length := by
  refine nodup_len (U := T) ?_ (fun x hx => ?_)
  · have := m.ok.rise
    exact List.Pairwise.imp (fun h e => by subst e; omega) this
  · obtain ⟨i, hi, rfl, _⟩ := (m.un x).1 (.inl hx)
    exact List.getElem_mem hi
/-- A turn of the flow's own blocks leaves the rows. -/
theorem MkAt.turn (m : MkAt w wr B p b g F F.U T G s6 s7 []) (ho : Only [p, b, g] wr wu) (fl : FlowAt wu p b g F') (ok : F'.Ok) (nx : F'.next = F.next) (hp : w.heap.size ≤ p ∧ w.heap.size ≤ b ∧ w.heap.size ≤ g) {R : List It} (nd : R.Nodup) (ap : ∀ x ∈ R, x ∉ F'.U) (hU : ∀ x, x ∈ F.U ↔ x ∈ F'.U ∨ x ∈ R) : MkAt w wu B p b g F' F'.U T G s6 s7 R := by
  have hn : ∀ x, B ≤ x → x ∉ [p, b, g] := fun x hx hm => by
    have := m.lt
    simp only [List.mem_cons, List.not_mem_nil, or_false] at hm
    omega
  refine ⟨fl, ok, Only.flow_below m.bel ho hp.1 hp.2.1 hp.2.2, m.num, m.at0, m.len, nx.trans m.nx, fun x => ?_, nd, ap, own_only m.sent ho (fun x e => hn x (own_ge m.sent e)), own_only m.gone ho (fun x e => hn x (own_ge m.gone e)), m.lt⟩
  rw [← hU, ← m.un]
  simp
/-- The next one is marked. -/
theorem MkAt.step {x : It} (m : MkAt w wr B p b g F V T G s6 s7 (x :: R)) (hB : w.heap.size ≤ B) : ∃ i, ∃ h : i < T.length, x.num = (i : Int) ∧ T[i] = x ∧ ∃ a7 c7 a6 c6 g7 g6, s7 = .slice a7 T.length c7 ∧ s6 = .slice a6 T.length c6 ∧ a7 = some ⟨g7, 0, none⟩ ∧ a6 = some ⟨g6, 0, none⟩ ∧ wr.cell? ⟨g7, i, none⟩ = some (.bool false) ∧ wr.frozen? ⟨g7, i, none⟩ = false ∧
    wr.cell? ⟨g6, i * 5, none⟩ = some (.int .u64 x.num) ∧ wr.cell? ⟨g6, i * 5 + 1, none⟩ = some (.int .i64 x.kind) ∧ wr.cell? ⟨g6, i * 5 + 2, none⟩ = some (.int .u64 x.off) ∧ wr.cell? ⟨g6, i * 5 + 3, none⟩ = some (.int .i64 x.len) ∧ wr.cell? ⟨g6, i * 5 + 4, none⟩ = some (.int .u64 x.at_) ∧ g7 < wr.heap.size ∧
    (∀ base' v n xs, wr.ownsRow base' 60 5 v n xs → ∀ y, v.ownBlock = some y → y ≠ g7) ∧
    ∀ wu, Below wr.heap.size wr wu → MkAt w (wu.setCell ⟨g7, i, none⟩ (.bool true)) B p b g F V T (G.set i true) s6 s7 R := by
  obtain ⟨i, hi, e, hg⟩ := (m.un x).1 (.inr (by simp))
  have hxn := m.num i hi
  rw [e] at hxn
  have hiG : i < G.length := by rw [m.len]; exact hi
  obtain ⟨a7, c7, e7, h7⟩ := own_viewB m.gone
  obtain ⟨g7, ea7, hB7, cg, fg, _⟩ := h7 i hiG
  obtain ⟨a6, c6, e6, h6⟩ := own_view m.sent
  obtain ⟨g6, ea6, hB6, d0, d1, d2, d3, d4⟩ := h6 i hi
  rw [e] at d0 d1 d2 d3 d4
  have hgi : G[i] = false := by rw [List.getElem?_eq_getElem hiG] at hg; simpa using hg
  rw [hgi] at cg
  have hg7 : g7 < wr.heap.size := World.block_lt_of_cell? wr ⟨g7, i, none⟩ cg
  refine ⟨i, hi, hxn, e, a7, c7, a6, c6, g7, g6, by rw [e7, m.len], e6, ea7, ea6, cg, fg, d0, d1, d2, d3, d4, hg7, fun base' v n xs hr y hy e' => ?_, fun wu hb => ?_⟩
  · subst e'
    rcases hr.2 with ⟨h1, _⟩ | ⟨gg, _, _, h1, _, h2, _⟩
    · rw [h1] at hy; simp [Value.ownBlock] at hy
    · rcases m.gone.2 with ⟨k1, _⟩ | ⟨gk, _, _, k1, _, k2, _⟩
      · rw [e7, ea7] at k1; simp at k1
      · rw [h1] at hy
        rw [e7, ea7] at k1
        simp [Value.ownBlock] at hy k1
        rw [hy] at h2
        rw [← k1.1, h2] at k2
        simp at k2
  have mk := m.kept hb
  obtain ⟨a7', c7', e7', h7'⟩ := own_viewB mk.gone
  obtain ⟨g7', ea7', _, _, _, hset⟩ := h7' i hiG
  have eg : g7' = g7 := by
    rw [e7] at e7'
    simp only [Value.slice.injEq] at e7'
    rw [← e7'.1, ea7] at ea7'
    simpa using ea7'.symm
  subst eg
  have ho : Only [g7'] wu (wu.setCell ⟨g7', i, none⟩ (.bool true)) := (Only.refl _ _).setCell g7' i _ (.inl (by simp))
  obtain ⟨l1, l2, l3⟩ := m.lt
  have h67 : g6 ≠ g7' := by
    intro e'
    rcases m.sent.2 with ⟨h1, _⟩ | ⟨gg, _, _, h1, _, h2, _⟩
    · rw [e6, ea6] at h1; simp at h1
    · rcases m.gone.2 with ⟨k1, _⟩ | ⟨gk, _, _, k1, _, k2, _⟩
      · rw [e7, ea7] at k1; simp at k1
      · rw [e6, ea6] at h1
        rw [e7, ea7] at k1
        simp at h1 k1
        rw [← h1.1] at h2
        rw [← k1.1, ← e', h2] at k2
        simp at k2
  refine ⟨mk.fl.only ho (by simp; omega) (by simp; omega) (by simp; omega), m.ok, mk.bel.trans (ho.below mk.bel.size (fun x hx => by simp at hx; omega)), m.num, m.at0, by rw [List.length_set]; exact m.len, m.nx, fun y => ?_, (List.nodup_cons.1 m.nd).2, fun y hy => m.ap y (by simp [hy]), own_only mk.sent ho (fun y hy => by rw [e6, ea6] at hy; simp only [Value.ownBlock, Option.some.injEq] at hy; simp; omega), hset true, m.lt⟩
  have hnR := (List.nodup_cons.1 m.nd).1
  have hnU := m.ap x (by simp)
  have hun := m.un y
  constructor
  · intro hy
    obtain ⟨j, hj, ej, hgj⟩ := hun.1 (by rcases hy with h | h; exact .inl h; exact .inr (by simp [h]))
    refine ⟨j, hj, ej, ?_⟩
    have hji : j ≠ i := by
      rintro rfl
      rw [e] at ej
      subst ej
      rcases hy with h | h
      · exact hnU h
      · exact hnR h
    rw [List.getElem?_set_ne (fun h => hji h.symm)]
    exact hgj
  · rintro ⟨j, hj, ej, hgj⟩
    have hji : j ≠ i := by
      rintro rfl
      rw [List.getElem?_set_self hiG] at hgj
      cases hgj
    rw [List.getElem?_set_ne (fun h => hji h.symm)] at hgj
    rcases hun.2 ⟨j, hj, ej, hgj⟩ with h | h
    · exact .inl h
    · rcases List.mem_cons.1 h with h' | h'
      · subst h'
        have h1 := m.num j hj
        rw [ej, hxn] at h1
        omega
      · exact .inr h'
end
end Go.Proofs.Ytbkfmknjbdonlaa
