import Derived.Test.YtoeldomhkeancaaPoi
namespace Go.Proofs.Ytoeldomhkeancaa
open Go.RowKit Go.Maps
set_option maxRecDepth 100000

set_option maxHeartbeats 2000000 in
/-- Nothing is due. -/
theorem due_noi {w : World} {p o : Nat} {c : List Value} {v : Value} {L : List (It Value)} (h : HMi w p o c v L) {now : Int} (hn : ∀ y, L[0]? = some y → now < y.at_) (hl : L.length ≤ 2932031007402) :
    Calls Try.prog 31 #[pt p o, .int .u64 now] w fun e w' => e = .returned (.tuple #[.agg (icells zIi).toArray, .bool false]) ∧ Below w.heap.size w w' := by
  have hb1 := below_new w (.cells #[.int .u64 0, .int .u64 0, .int .i64 0] 87)
  have R2 := Row.new w (icells zIi) 87
  obtain ⟨a, cap, rfl, hlc, hcm, hz, hel⟩ := h.slice
  have c0 := (h.below hb1).cell
  have HH : Hid (∀ y, L[0]? = some y → ∃ g, a = some ⟨g, 0, none⟩ ∧ (w.alloc (.cells #[.int .u64 0, .int .u64 0, .int .i64 0] 87)).cell? ⟨g, 0, none⟩ = some (.int .u64 y.at_)) := fun y hy => by
    obtain ⟨g, e, _⟩ := hel 0 y hy
    subst e
    have := ((h.below hb1).cells3 rfl hy).1
    exact ⟨g, rfl, by simpa using this⟩
  have HN := hid hn
  have hli : (L.length : Int) ≤ 2932031007402 := by omega
  clear h hlc hcm hz hel hn hl
  go_enter Try.func31, Try.ntmps31
  go_upto_region 1 with fail
  change Row (w.alloc (.cells #[.int .u64 0, .int .u64 0, .int .i64 0] 87)) w.heap.size (icells zIi) 87 at R2
  have HB := hid hb1
  have HR := hid R2
  clear hb1 R2
  revert HB HR HH c0
  generalize w.alloc (.cells #[.int .u64 0, .int .u64 0, .int .i64 0] 87) = w1
  intro c0 HH HB HR
  obtain ⟨b, hb⟩ : ∃ b, w.heap.size = b := ⟨_, rfl⟩
  rw [hb] at HR ⊢
  have HBB := hid hb
  clear hb
  have HEND : Hid (∀ w8, w8 = w1.setRow b (icells zIi).toArray → Row w8 b (icells zIi) 87 ∧ Below w.heap.size w w8) := fun w8 e => by
    subst e
    exact ⟨HR.out.row _, below_setRow HB.out (by have := HBB.out; omega) _⟩
  cases L with
  | nil =>
    have h0 : ((([] : List (It Value)).length : Nat) : Int) = 0 := rfl
    go_wp2_with (show wpList _ _ _ (Oper.mk none (.store 87 (.tmp 4) (.tmp 23)) _ _ _ _ :: _) _ _; refine HR.out.wpStore' 87 (.tmp 4) (.tmp 23) (icells zIi) rfl rfl rfl rfl rfl (icells_one rfl) info_i ?_; intro w8 HW8)
    obtain ⟨R8, B8⟩ := HEND.out w8 HW8.out
    exact bodyPost_ret (R8.result2 Try.results31 _ rfl _ Try.underlying87 rfl info_i) rfl ⟨rfl, B8⟩
  | cons y r =>
    obtain ⟨g, rfl, c1⟩ := HH.out y rfl
    have hlt : now < y.at_ := HN.out y rfl
    have h0 : ¬ (((y :: r).length : Nat) : Int) = 0 := by simp <;> omega
    have h1 : (0 : Int) < (((y :: r).length : Nat) : Int) := by simp <;> omega
    generalize (y :: r).length = n at *
    clear HH HN
    go_wp2_with (show wpList _ _ _ (Oper.mk none (.store 87 (.tmp 4) (.tmp 23)) _ _ _ _ :: _) _ _; refine HR.out.wpStore' 87 (.tmp 4) (.tmp 23) (icells zIi) rfl rfl rfl rfl rfl (icells_one rfl) info_i ?_; intro w8 HW8)
    obtain ⟨R8, B8⟩ := HEND.out w8 HW8.out
    exact bodyPost_ret (R8.result2 Try.results31 _ rfl _ Try.underlying87 rfl info_i) rfl ⟨rfl, B8⟩
set_option maxHeartbeats 2000000 in
/-- The first one is due. -/
theorem due_yesi {w : World} {p o : Nat} {c : List Value} {v : Value} {L : List (It Value)} (h : HMi w p o c v L) (hh : Hp L.length (kat L)) {a : It Value} (ha : L[0]? = some a) {now : Int} (hle : a.at_ ≤ now) (hl : L.length ≤ 2932031007402) :
    Calls Try.prog 31 #[pt p o, .int .u64 now] w fun e w' => e = .returned (.tuple #[.agg (icells a).toArray, .bool true]) ∧ PoEndi w p o c v L a w' := by
  have hb1 := below_new w (.cells #[.int .u64 0, .int .u64 0, .int .i64 0] 87)
  have R2 := Row.new w (icells zIi) 87
  obtain ⟨g, cap, rfl, hgp, hnc, hcm, hgl, -⟩ := h.shape.resolve_left (fun e => by rw [e.2] at ha; simp at ha)
  have h1 := h.below hb1
  have HP := hid (pop_i h1 hh ha hl)
  have c0 := h1.cell
  have c1 : (w.alloc (.cells #[.int .u64 0, .int .u64 0, .int .i64 0] 87)).cell? ⟨g, 0, none⟩ = some (.int .u64 a.at_) := by
    have := (h1.cells3 rfl ha).1
    simpa using this
  have oa := h.one a (List.mem_of_getElem? ha)
  have hpl := h.row.lt
  have hlt : ¬ now < a.at_ := by omega
  have hpos : 0 < L.length := (List.getElem?_eq_some_iff.1 ha).1
  have h0 : ¬ (L.length : Int) = 0 := by omega
  have h2 : (0 : Int) < (L.length : Int) := by omega
  have hli : (L.length : Int) ≤ 2932031007402 := by omega
  have HEND : Hid (∀ w7 w8, PoEndi (w.alloc (.cells #[.int .u64 0, .int .u64 0, .int .i64 0] 87)) p o c (.slice (some ⟨g, 0, none⟩) L.length cap) L a w7 → w8 = w7.setRow w.heap.size (icells a).toArray → Row w7 w.heap.size (icells zIi) 87 ∧ (Row w8 w.heap.size (icells a) 87 ∧ PoEndi w p o c (.slice (some ⟨g, 0, none⟩) L.length cap) L a w8)) := fun w7 w8 hE e => by
    have hR7 : Row w7 w.heap.size (icells zIi) 87 := by
      obtain ⟨_, _, _, _, _, hF, _⟩ := hE
      exact hF.row R2 (by rintro (e | e); omega; simp [Value.ownBlock] at e; omega)
    subst e
    refine ⟨hR7, hR7.row _, ?_⟩
    have hF8 : Fr (fun j => j = w.heap.size) w7 (w7.setRow w.heap.size (icells a).toArray) := by
      have := Only.setRow (S := [w.heap.size]) (Only.refl _ w7) w.heap.size (icells a).toArray (.inl (by simp))
      exact ⟨this.os, this.tape, this.output, this.size, fun k hk hne => this.block k hk (fun e => hne (by simpa using e))⟩
    obtain ⟨v', L', e1, e2, e3, e4, e5⟩ := hE
    exact PoEndi.far (b2 := w.heap.size) ⟨v', L', e1, e2, e3, (Fr.of_below hb1 (Nat.le_refl _)).trans e4 (fun x e => .inl e), e5⟩ hF8 (Nat.le_refl _) (by omega) (fun h e => by simp [Value.ownBlock] at e; omega)
  clear h h1 hh ha hgp hnc hcm hgl hle hl
  go_enter Try.func31, Try.ntmps31
  go_upto_region 1 with fail
  change Row (w.alloc (.cells #[.int .u64 0, .int .u64 0, .int .i64 0] 87)) w.heap.size (icells zIi) 87 at R2
  clear hb1 R2 hpl hpos
  revert c0 c1 HP HEND
  generalize w.alloc (.cells #[.int .u64 0, .int .u64 0, .int .i64 0] 87) = w1
  intro HP c0 c1 HEND
  generalize w.heap.size = b at *
  generalize hn : L.length = n at *
  go_wp2_with (first
    | (go_at_call 42; refine Calls.mono HP.out ?_; rintro e w7 ⟨rfl, hE⟩; have HE := hid hE; clear hE)
    | (show wpList _ _ _ (Oper.mk none (.store 87 (.tmp 4) (.tmp 25)) _ _ _ _ :: _) _ _; refine (HEND.out w7 _ HE.out rfl).1.wpStore' 87 (.tmp 4) (.tmp 25) (icells a) rfl rfl rfl rfl rfl (icells_one oa) info_i ?_; intro w8 HW8))
  obtain ⟨-, R8, B8⟩ := HEND.out w7 w8 HE.out HW8.out
  exact bodyPost_ret (R8.result2 Try.results31 _ rfl _ Try.underlying87 rfl info_i) rfl ⟨rfl, B8⟩
end Go.Proofs.Ytoeldomhkeancaa
