import Derived.Test.YtjnmfedefmemnaaOpen0
import Derived.Test.YtjnmfedefmemnaaRowB
import Derived.JoinedCond
namespace Go.Proofs.Ytjnmfedefmemnaa
open Go.ChangeShapes Go.WideShapes Go.ChangeAt Go.RowKit Go.Deep
set_option maxRecDepth 100000

theorem cells5 : Try.prog.cellsOf 5 = 1 := by kernel_rfl
theorem cells22 : Try.prog.cellsOf 22 = 1 := by kernel_rfl
theorem cells3 : Try.prog.cellsOf 3 = 1 := by kernel_rfl
theorem bytes5 : Try.prog.bytesOf 5 = 1 := by kernel_rfl
theorem bulk_members {H : Type} : ∀ l : List (DataW H), l.length ≤ Rows.uptoBulkAll l
  | [] => Nat.zero_le _
  | d :: r => by
    have h1 : 1 ≤ Rows.uptoBulk d := by
      match d with
      | .lit l => cases l <;> simp [Rows.uptoBulk]
      | .nil | .ptr _ | .slice _ _ | .agg _ | .iface _ _ | .map _ | .held _ => simp [Rows.uptoBulk]
    have h2 := bulk_members r
    simp only [Rows.uptoBulkAll, List.length_cons]
    omega
theorem bulk_mem {H : Type} {d : DataW H} : ∀ {l : List (DataW H)}, d ∈ l → Rows.uptoBulk d ≤ Rows.uptoBulkAll l
  | x :: r, h => by
    simp only [Rows.uptoBulkAll]
    rcases List.mem_cons.1 h with rfl | h
    · omega
    · have := bulk_mem h
      omega
theorem addr_off {a : Addr} (h : a.spot = none) (i : Nat) : a.add i = ⟨a.block, a.off + i, none⟩ := by
  obtain ⟨b, o, s⟩ := a
  simp only at h
  subst h
  exact Addr.add_lit b o i
section
variable {H : Type} {enc : TypeId × Value → H} {W : World}
/-- The bytes of a slice: what they weigh. -/
theorem open_bytes {sp : Nat → Bool} {held : Bool} {fuel len cap : Nat} {a : Option Addr} {x : DataW H × List MemPlace} (h : DataW.trod enc Try.prog W 0 sp held fuel 22 [.slice a len cap] = some x) :
    ∃ bs : List (BitVec 8), bs.length = len ∧ BytesAt W a bs ∧ len ≤ cap ∧ (len = 0 ∨ ∃ elems rest, x.1 = .slice elems rest ∧ elems.length = len) := by
  rcases open_slice Try.underlying22 h with ⟨hcs, _⟩ | ⟨ad, l, c, m, n, D, Pl, hcs, _, hl, hm, hmm, hx, hel⟩
  · simp at hcs
    obtain ⟨rfl, rfl, rfl⟩ := hcs
    exact ⟨[], rfl, fun i h => by simp at h, Nat.le_refl _, .inl rfl⟩
  · simp at hcs
    obtain ⟨rfl, rfl, rfl⟩ := hcs
    have hlm : len ≤ m := by rw [hmm]; split <;> omega
    have each : ∀ i, i < m → ∃ b : BitVec 8, W.cell? (ad.add i) = some (.int .u8 (ub b)) := by
      intro i hi
      obtain ⟨cs', h1, h2⟩ := hel i hi
      rw [cells5] at h1
      obtain ⟨_, hlen, hcell⟩ := World.cells?_some h1
      obtain ⟨z, e, _, wz⟩ := DataW.trod_int Try.underlying5 h2
      have := hcell 0 (by omega)
      rw [add_add, e] at this
      have bd := bounds_u8 wz
      refine ⟨BitVec.ofNat 8 z.toNat, ?_⟩
      rw [← ub_of z bd.1 (by omega)]
      simpa using this
    obtain ⟨f, hf⟩ := choose_lt each
    refine ⟨(List.range len).map f, by simp, fun i h => ?_, hl, .inr ⟨_, _, by rw [hx], by simp⟩⟩
    have hi : i < len := by simpa using h
    have h0 := hf 0 (by omega)
    have hs : ad.spot = none := World.cell?_spot (a := ad) (v := .int .u8 (ub (f 0))) (by simpa [Addr.add] using h0)
    have hh := hf i (by omega)
    refine ⟨ad.block, ad.off, ?_, ?_⟩
    · cases ad; simp only at hs; subst hs; rfl
    · rw [addr_off hs] at hh; simpa using hh
theorem bulk_slice {n : Nat} {d : DataW H} (h : n = 0 ∨ ∃ elems sp, d = .slice elems sp ∧ elems.length = n) : n ≤ Rows.uptoBulk d := by
  rcases h with rfl | ⟨elems, sp, rfl, rfl⟩
  · exact Nat.zero_le _
  · have := bulk_members elems
    simp only [Rows.uptoBulk]
    omega
theorem open_ints {sp : Nat → Bool} {held : Bool} {fuel len cap : Nat} {a : Option Addr} {x : DataW H × List MemPlace} (h : DataW.trod enc Try.prog W 0 sp held fuel 27 [.slice a len cap] = some x) :
    ∃ ps : List Int, ps.length = len ∧ CellsAt W a (ps.map (Value.int .i64)) ∧ len ≤ Rows.uptoBulk x.1 := by
  rcases open_slice Try.underlying27 h with ⟨hcs, _⟩ | ⟨ad, l, c, m, n, D, Pl, hcs, _, hl, hm, hmm, hx, hel⟩
  · simp at hcs
    obtain ⟨rfl, rfl, rfl⟩ := hcs
    exact ⟨[], rfl, fun i h => by simp at h, Nat.zero_le _⟩
  · simp at hcs
    obtain ⟨rfl, rfl, rfl⟩ := hcs
    have hlm : len ≤ m := by rw [hmm]; split <;> omega
    have each : ∀ i, i < m → ∃ b : Int, W.cell? (ad.add i) = some (.int .i64 b) := by
      intro i hi
      obtain ⟨cs', h1, h2⟩ := hel i hi
      rw [cells3] at h1
      obtain ⟨_, hlen, hcell⟩ := World.cells?_some h1
      obtain ⟨z, e, _, wz⟩ := DataW.trod_int Try.underlying3 h2
      have := hcell 0 (by omega)
      rw [add_add, e] at this
      exact ⟨z, by simpa using this⟩
    obtain ⟨f, hf⟩ := choose_lt each
    refine ⟨(List.range len).map f, by simp, fun i h => ?_, bulk_slice (.inr ⟨_, _, by rw [hx], by simp⟩)⟩
    have hi : i < len := by simpa using h
    have h0 := hf 0 (by omega)
    have hs : ad.spot = none := World.cell?_spot (a := ad) (v := .int .i64 (f 0)) (by simpa [Addr.add] using h0)
    have hh := hf i (by omega)
    refine ⟨ad.block, ad.off, ?_, ?_⟩
    · cases ad; simp only at hs; subst hs; rfl
    · rw [addr_off hs] at hh; simpa using hh
theorem cell_slice {sp : Nat → Bool} {held : Bool} {fuel : Nat} {v : Value} {x : DataW H × List MemPlace} (h : DataW.trod enc Try.prog W 0 sp held fuel 22 [v] = some x) : ∃ a len cap, v = .slice a len cap := by
  rcases open_slice Try.underlying22 h with ⟨hcs, _⟩ | ⟨ad, l, c, m, n, D, Pl, hcs, _⟩
  · simp at hcs
    exact ⟨_, _, _, hcs⟩
  · simp at hcs
    exact ⟨_, _, _, hcs⟩
theorem open_frames {sp : Nat → Bool} {held : Bool} {fuel len cap : Nat} {a : Option Addr} {x : DataW H × List MemPlace} (h : DataW.trod enc Try.prog W 0 sp held fuel 35 [.slice a len cap] = some x) :
    ∃ (xs : List Value) (fs : List (List (BitVec 8))), xs.length = len ∧ CellsAt W a xs ∧ Slices W xs fs ∧ (∀ f ∈ fs, f.length ≤ Rows.uptoBulk x.1) ∧ len ≤ Rows.uptoBulk x.1 := by
  rcases open_slice Try.underlying35 h with ⟨hcs, _⟩ | ⟨ad, l, c, m, n, D, Pl, hcs, _, hl, hm, hmm, hx, hel⟩
  · simp at hcs
    obtain ⟨rfl, rfl, rfl⟩ := hcs
    exact ⟨[], [], rfl, fun i h => by simp at h, ⟨rfl, fun j x f h => by simp at h⟩, (fun f hf => by cases hf), Nat.zero_le _⟩
  · simp at hcs
    obtain ⟨rfl, rfl, rfl⟩ := hcs
    have hlm : len ≤ m := by rw [hmm]; split <;> omega
    have each : ∀ i, i < m → ∃ b : Value × List (BitVec 8), W.cell? (ad.add i) = some b.1 ∧ SlAt W b.1 b.2 ∧ b.2.length ≤ Rows.uptoBulk (D i) := by
      intro i hi
      obtain ⟨cs', h1, h2⟩ := hel i hi
      rw [cells22] at h1
      obtain ⟨_, hlen, hcell⟩ := World.cells?_some h1
      match cs', hlen with
      | [v], _ =>
        obtain ⟨a1, l1, c1, rfl⟩ := cell_slice h2
        obtain ⟨bs, rfl, hB, _, hsl⟩ := open_bytes h2
        have := hcell 0 (by simp)
        rw [add_add] at this
        exact ⟨(.slice a1 bs.length c1, bs), by simpa using this, ⟨a1, c1, rfl, hB⟩, bulk_slice hsl⟩
    obtain ⟨f, hf⟩ := choose_lt each
    refine ⟨(List.range len).map fun i => (f i).1, (List.range len).map fun i => (f i).2, by simp, fun i h => ?_, ⟨by simp, fun j x g h1 h2 => ?_⟩, fun g hg => ?_, bulk_slice (.inr ⟨_, _, by rw [hx], by simp⟩)⟩
    · have hi : i < len := by simpa using h
      have h0 := (hf 0 (by omega)).1
      have hs : ad.spot = none := World.cell?_spot (a := ad) (v := (f 0).1) (by simpa [Addr.add] using h0)
      have hh := (hf i (by omega)).1
      refine ⟨ad.block, ad.off, ?_, ?_⟩
      · cases ad; simp only at hs; subst hs; rfl
      · rw [addr_off hs] at hh; simpa using hh
    · have hj : j < len := by have := (List.getElem?_eq_some_iff.1 h1).1; simpa using this
      simp [hj] at h1 h2
      subst h1
      subst h2
      exact (hf j (by omega)).2.1
    · obtain ⟨j, hj, rfl⟩ := List.mem_map.1 hg
      have hj' : j < len := by simpa using hj
      have h1 := (hf j (by omega)).2.2
      have h2 : D j ∈ (List.range len).map D := List.mem_map.2 ⟨j, by simpa using hj', rfl⟩
      have h3 := bulk_mem h2
      rw [hx]
      simp only [Rows.uptoBulk]
      omega
end
end Go.Proofs.Ytjnmfedefmemnaa
