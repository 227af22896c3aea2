import Derived.Test.YtbkfmknjbdonlaaTakeU
import Derived.Test.YtbkfmknjbdonlaaRtRto
namespace Go.Proofs.Ytbkfmknjbdonlaa
open Go.RowKit Go.Maps Go.Sort
set_option maxRecDepth 100000

/-- What a Flow holds. -/
structure Fl where
  U : List It
  E : Es
  retries : Int
  strikes : Int
  next : Int
  last : Int
  mark : Int
  line : Int
def Fl.cells (F : Fl) (b g : Nat) : List Value := [.map (some b), .pointer (some ⟨g, 0, none⟩), .int .i64 F.retries, .int .i64 F.strikes, .int .u64 F.next, .int .u64 F.last, .int .u64 F.mark, .int .u64 F.line]
structure FlowAt (w : World) (p b g : Nat) (F : Fl) : Prop where
  row : Row w p (F.cells b g) 87
  map : OwnU w b F.U
  est : EstAt w g F.E
structure Fl.Ok (F : Fl) : Prop where
  est : F.E.Ok
  rise : Rising F.U
  nums : ∀ x ∈ F.U, 0 ≤ x.num ∧ x.num < F.next
  next0 : 0 ≤ F.next
  mark0 : 0 ≤ F.mark
  mark1 : F.mark ≤ 18446744073709551615
theorem FlowAt.kept {w w' : World} {p b g : Nat} {F : Fl} (h : FlowAt w p b g F) (hb : Below w.heap.size w w') : FlowAt w' p b g F := ⟨h.row.kept hb h.row.lt, h.map.below hb, h.est.kept hb⟩
theorem FlowAt.ne {w : World} {p b g : Nat} {F : Fl} (h : FlowAt w p b g F) : p ≠ b ∧ p ≠ g ∧ g ≠ b := by
  obtain ⟨es, clock, hm, _⟩ := h.map
  have h1 := h.row.at_
  have h2 := Row.at_ h.est
  refine ⟨fun e => ?_, fun e => ?_, fun e => ?_⟩
  · subst e; rw [hm] at h1; cases h1
  · subst e; rw [h2] at h1; simp at h1
  · subst e; rw [hm] at h2; cases h2
/-- Another block than a Flow's own is turned. -/
theorem FlowAt.only {w w' : World} {p b g : Nat} {F : Fl} {S : List Nat} (h : FlowAt w p b g F) (ho : Only S w w') (h1 : p ∉ S) (h2 : b ∉ S) (h3 : g ∉ S) : FlowAt w' p b g F := by
  refine ⟨ho.row h.row h1, ?_, ho.row h.est h3⟩
  have hlt := World.ownsMap.lt h.map
  obtain ⟨es, clock, hm, rest⟩ := h.map
  exact ⟨es, clock, (ho.block b hlt h2).trans hm, rest⟩
def Fl.new (r : Int) : Fl := ⟨[], Es.new, min (max r 1) 16, 0, 0, 0, 0, 0⟩
theorem Fl.new_ok (r : Int) : (Fl.new r).Ok := ⟨Es.new_ok, List.Pairwise.nil, fun x hx => by simp [Fl.new] at hx, by simp [Fl.new], by simp [Fl.new], by simp [Fl.new]⟩
theorem OwnU.setCell {w : World} {b : Nat} {U : List It} (h : OwnU w b U) {p o : Nat} (hp : b ≠ p) (v : Value) : OwnU (w.setCell ⟨p, o, none⟩ v) b U := World.ownsMap.setCell h hp v
theorem OwnU.block {w w' : World} {b : Nat} {U : List It} (h : OwnU w b U) (e : w'.heap[b]? = w.heap[b]?) : OwnU w' b U := by
  obtain ⟨es, clock, hm, rest⟩ := h
  exact ⟨es, clock, e.trans hm, rest⟩

set_option maxHeartbeats 1000000 in
theorem flownew_any (w : World) (r : Int) : Calls Try.prog 17 #[.int .i64 r] w fun e w' => ∃ p b g, e = .returned (.pointer (some ⟨p, 0, none⟩)) ∧ FlowAt w' p b g (Fl.new r) ∧ w.heap.size ≤ p ∧ w.heap.size ≤ b ∧ w.heap.size ≤ g ∧ Below w.heap.size w w' := by
  have hE := estnew_any (w.alloc (.map #[] 0))
  have hmm := @run_makeMap Try.prog
  have hm0 := hid (World.ownsMap_made (H := It) w Try.prog 36 readIt)
  go_enter Try.func17, Try.ntmps17
  go_wp2_with (go_at_call 40; refine hE.mono ?_; rintro e w2 ⟨rfl, hr, hb⟩; have HR := hid hr; have HB := hid hb; clear hr hb)
  go_ret
  have hb1 := below_grow (Below.refl w.heap.size w) (.map #[] 0)
  have hz : (w.alloc (.map #[] 0)).heap.size = w.heap.size + 1 := by simp
  rw [hz] at HR HB
  have hlt := Row.lt HR.out
  refine ⟨w2.heap.size, w.heap.size, w.heap.size + 1, rfl, ⟨Row.new' _ _ _ _ _ rfl (by simp [Fl.cells, Fl.new]), ?_, Row.alloc HR.out _⟩, by omega, Nat.le_refl _, by omega, ?_⟩
  · refine OwnU.block (w := w.alloc (.map #[] 0)) hm0.out ?_
    rw [Below.heap_alloc _ _ _ (by omega)]
    exact HB.out.block _ (by omega)
  · exact below_grow (hb1.trans (HB.out.mono (by omega))) _
theorem frto_any {w : World} {p b g : Nat} {F : Fl} (h : FlowAt w p b g F) (ok : F.Ok) :
    Calls Try.prog 21 #[.pointer (some ⟨p, 0, none⟩)] w fun e w' => e = .returned (.int .u64 F.E.rto) ∧ Below w.heap.size w w' := by
  have hK := rto_any h.est ok.est
  have c1 := h.row.cell 1 _ rfl
  clear h ok
  go_enter Try.func21, Try.ntmps21
  go_wp2_with (go_at_call 41; refine hK.mono ?_; rintro e w2 ⟨rfl, hb⟩; have HB := hid hb; clear hb)
  go_ret
  exact ⟨rfl, HB.out⟩
theorem strikes_any {w : World} {p b g : Nat} {F : Fl} (h : FlowAt w p b g F) :
    Calls Try.prog 23 #[.pointer (some ⟨p, 0, none⟩)] w fun e w' => e = .returned (.int .i64 F.strikes) ∧ w' = w := by
  have c := h.row.cell 3 _ rfl
  clear h
  go_enter Try.func23, Try.ntmps23
  go_wp2
  go_ret
  exact ⟨rfl, rfl⟩
theorem fnext_any {w : World} {p b g : Nat} {F : Fl} (h : FlowAt w p b g F) :
    Calls Try.prog 29 #[.pointer (some ⟨p, 0, none⟩)] w fun e w' => e = .returned (.int .u64 F.next) ∧ w' = w := by
  have c := h.row.cell 4 _ rfl
  clear h
  go_enter Try.func29, Try.ntmps29
  go_wp2
  go_ret
  exact ⟨rfl, rfl⟩
theorem len_items {w : World} {ops : Array Oper} {rest : List Oper} {o : Oper} {a : Act} {Q : Exit → Act → World → Prop} (hg : o.guard = none) (m : Operand) (hop : o.op = Op.call { callee := Callee.builtin Builtin.len, args := #[m], argTypes := #[83] }) (b : Nat) (U : List It)
    (hm : a.eval m = .map (some b)) (hown : OwnU w b U) (hK : wpList Try.prog ops Q rest (a.put o.dst (.int .i64 U.length)) w) : wpList Try.prog ops Q (o :: rest) a w := by
  refine wpList_len_own w hg m 83 hop 36 60 Try.underlying83 readIt b U.length (UD U) hm hown ?_
  rw [UD_size]
  exact hK
theorem inflight_any {w : World} {p b g : Nat} {F : Fl} (h : FlowAt w p b g F) :
    Calls Try.prog 28 #[.pointer (some ⟨p, 0, none⟩)] w fun e w' => e = .returned (.int .i64 F.U.length) ∧ w' = w := by
  have c := h.row.cell 0 _ rfl
  have HM := hid h.map
  clear h
  go_enter Try.func28, Try.ntmps28
  go_wp2_with (at_len; refine len_items rfl _ rfl b F.U rfl HM.out ?_)
  go_ret
  exact ⟨rfl, rfl⟩
theorem dead_any {w : World} {p b g : Nat} {F : Fl} (h : FlowAt w p b g F) :
    Calls Try.prog 24 #[.pointer (some ⟨p, 0, none⟩)] w fun e w' => e = .returned (.bool (decide (F.retries < F.strikes))) ∧ Below w.heap.size w w' := by
  have c2 := h.row.cell 2 _ rfl
  have c3 := h.row.cell 3 _ rfl
  clear h
  go_enter Try.func24, Try.ntmps24
  go_wp2
  go_quiet (fail)
  go_wp2
  go_ret
  exact ⟨rfl, below_drewN (Below.refl _ _) _⟩
theorem gone_any {w : World} {p b g : Nat} {F : Fl} (h : FlowAt w p b g F) (h0 : 0 ≤ F.retries) (h1 : F.retries ≤ 16) :
    Calls Try.prog 25 #[.pointer (some ⟨p, 0, none⟩)] w fun e w' => e = .returned (.bool (decide (2 * F.retries < F.strikes))) ∧ Below w.heap.size w w' := by
  have c2 := h.row.cell 2 _ rfl
  have c3 := h.row.cell 3 _ rfl
  have ew : wrap64 (2 * F.retries) = 2 * F.retries := by unfold wrap64; omega
  clear h
  go_enter Try.func25, Try.ntmps25
  go_wp2
  go_quiet (fail)
  go_wp2
  go_ret
  exact ⟨rfl, below_drewN (Below.refl _ _) _⟩
theorem every_any (x : It) (w : World) : Calls Try.prog 44 #[x.val] w fun e w' => e = .returned (.bool true) ∧ Below w.heap.size w w' := by
  obtain ⟨a, b, c, d, e⟩ := x
  simp only [It.val]
  go_enter Try.func44, Try.ntmps44
  go_wp2
  go_ret
  exact ⟨rfl, below_grow (Below.refl _ _) _⟩
def Fl.wake (F : Fl) : Fl := { F with strikes := 0, E := { F.E with b := 0 } }
theorem wake_any {w : World} {p b g : Nat} {F : Fl} (h : FlowAt w p b g F) :
    Calls Try.prog 26 #[.pointer (some ⟨p, 0, none⟩)] w fun e w' => e = .returned (.tuple #[]) ∧ FlowAt w' p b g F.wake ∧ Only [p, b, g] w w' := by
  have c1 := h.row.cell 1 _ rfl
  have c3 := h.row.cell 3 _ rfl
  have f3 := h.row.frozen 3
  have hne := h.ne
  have hR := h.row.set 3 (.int .i64 0)
  have hk := (Row.setOther h.est ⟨p, 3, none⟩ (fun e => hne.2.1 e.symm) (.int .i64 0))
  have c1' := hR.cell 1 _ rfl
  have hC := calm_any (w := w.setCell ⟨p, 3, none⟩ (.int .i64 0)) (g := g) (E := F.E) hk
  have HM := hid (h.map.setCell (p := p) (o := 3) (fun e => hne.1 e.symm) (.int .i64 0))
  have HR := hid hR
  have HN := hid hne
  clear h hk hR hne
  go_enter Try.func26, Try.ntmps26
  go_wp2_with (go_at_call 45; refine hC.mono ?_; rintro e w2 ⟨rfl, hr, ho⟩; have HE := hid hr; have HO := hid ho; clear hr ho)
  refine bodyPost_end (results_none Try.results26 _ _ _) rfl ?_
  obtain ⟨n1, n2, n3⟩ := HN.out
  refine ⟨rfl, ⟨HO.out.row HR.out (by simpa using n2), ?_, HE.out⟩, ?_⟩
  · exact OwnU.block HM.out (HO.out.block b (World.ownsMap.lt HM.out) (by simpa using fun e => n3 e.symm))
  · exact ((Only.refl _ _).setCell p 3 _ (.inl (by simp))).trans HO.out (by simp)
end Go.Proofs.Ytbkfmknjbdonlaa
