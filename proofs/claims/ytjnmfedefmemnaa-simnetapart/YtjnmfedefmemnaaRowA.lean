import Derived.Test.YtjnmfedefmemnaaAlive
namespace Go.Proofs.Ytjnmfedefmemnaa
open Go.RowKit
set_option maxRecDepth 100000

theorem and_one (x : Int) : ∃ d : Nat, d < 2 ∧ bits .and .i64 x 1 = (d : Int) := by
  have h : bits .and .i64 x 1 = IntKind.i64.wrap (((BitVec.ofInt 64 x &&& BitVec.ofInt 64 1).toNat : Nat) : Int) := rfl
  have hle : (BitVec.ofInt 64 x &&& BitVec.ofInt 64 1).toNat ≤ 1 := by
    rw [BitVec.toNat_and]
    exact Nat.and_le_right
  refine ⟨(BitVec.ofInt 64 x &&& BitVec.ofInt 64 1).toNat, by omega, ?_⟩
  rw [h, IntKind.wrap_i64]
  omega
/-- A slice value that holds these bytes. -/
def SlAt (w : World) (x : Value) (f : List (BitVec 8)) : Prop := ∃ a cap, x = .slice a f.length cap ∧ BytesAt w a f
theorem SlAt.kept {B : Nat} {w w' : World} {x : Value} {f : List (BitVec 8)} (h : SlAt w x f) (hB : B = w.heap.size) (hb : Below B w w') : SlAt w' x f := by
  subst hB
  obtain ⟨a, cap, e, hB⟩ := h
  exact ⟨a, cap, e, hB.kept hb⟩
/-- Slice values that hold these frames, one by one. -/
structure Slices (w : World) (xs : List Value) (fs : List (List (BitVec 8))) : Prop where
  len : xs.length = fs.length
  each : ∀ (j : Nat) (x : Value) (f : List (BitVec 8)), xs[j]? = some x → fs[j]? = some f → SlAt w x f
theorem Slices.take {w : World} {xs : List Value} {fs : List (List (BitVec 8))} (h : Slices w xs fs) (k : Nat) : Slices w (xs.take k) (fs.take k) :=
  ⟨by simp [h.len], fun j x f h1 h2 => by
    by_cases hj : j < k
    · rw [List.getElem?_take_of_lt hj] at h1 h2
      exact h.each j x f h1 h2
    · rw [List.getElem?_eq_none (by simp; omega)] at h1
      cases h1⟩
theorem Slices.erase {w : World} {xs : List Value} {fs : List (List (BitVec 8))} (h : Slices w xs fs) (k : Nat) : Slices w (xs.eraseIdx k) (fs.eraseIdx k) :=
  ⟨by simp [List.length_eraseIdx, h.len], fun j x f h1 h2 => by
    rw [List.getElem?_eraseIdx] at h1 h2
    split at h1
    · rename_i hi
      rw [if_pos hi] at h2
      exact h.each j x f h1 h2
    · rename_i hi
      rw [if_neg hi] at h2
      exact h.each (j + 1) x f h1 h2⟩
theorem Slices.one {w : World} {xs : List Value} {fs : List (List (BitVec 8))} (h : Slices w xs fs) : ∀ v ∈ xs, v.oneCell' = true := fun v hv => by
  obtain ⟨j, hj, rfl⟩ := List.mem_iff_getElem.1 hv
  obtain ⟨a, cap, e, _⟩ := h.each j _ _ (List.getElem?_eq_getElem hj) (List.getElem?_eq_getElem (by rw [← h.len]; exact hj))
  rw [e]
  rfl
theorem info22 : ∃ i : TypeInfo, Try.prog.info? 22 = some i ∧ i.zero = some (.slice none 0 0) ∧ i.size = 1 ∧ i.bytes = 24 := by
  have h : (Try.prog.info? 22).map (fun i => (i.zero, i.size, i.bytes)) = some (some (.slice none 0 0), 1, 24) := by kernel_rfl
  cases hq : Try.prog.info? 22 with
  | none => rw [hq] at h; cases h
  | some i => rw [hq] at h; simp at h; exact ⟨i, rfl, h.1, h.2.1, h.2.2⟩
theorem owns_keeps {B base m : Nat} {w w' : World} {v : Value} {xs : List Value} (h : w.ownsRow base 22 1 v m xs) (K : Keeps B w w') : w'.ownsRow base 22 1 v m xs := by
  obtain ⟨h1, h2 | ⟨g, cap, cur, e, hb, hh, rest⟩⟩ := h
  · exact ⟨h1, .inl h2⟩
  · have r : Row w g cur.toList 22 := ⟨by simpa using hh⟩
    have r' := (K.row r (by decide) (by decide)).at_
    exact ⟨h1, .inr ⟨g, cap, cur, e, hb, by simpa using r', rest⟩⟩
theorem owns_block {base m : Nat} {w : World} {v : Value} {xs : List Value} (h : w.ownsRow base 22 1 v m xs) : ∀ x, v.ownBlock = some x → ∃ cc, Row w x cc 22 := by
  obtain ⟨h1, ⟨rfl, _⟩ | ⟨g, cap, cur, rfl, hb, hh, rest⟩⟩ := h
  · intro x hx; cases hx
  · intro x hx
    simp only [Value.ownBlock, Option.some.injEq] at hx
    subst hx
    exact ⟨cur.toList, ⟨by simpa using hh⟩⟩
section
variable {B : Nat} {w w' : World} {p g n k d : Nat} {up : Bool} {C L : Int} {c : List Value} {v : Value} {qs : List Nat} {fs : List (List (BitVec 8))}
theorem Lane.far {S : List Nat} (h : Lane B w p g n k d up C L c v qs fs) (ho : Only S w w') (hS : ∀ x ∈ S, ∃ cc t, Row w x cc t ∧ t ≠ 52 ∧ t ≠ 67 ∧ t ≠ 73 ∧ t ≠ 84 ∧ t ≠ 5) : Lane B w' p g n k d up C L c v qs fs :=
  { h with
    net := ho.row h.net (fun hm => by obtain ⟨cc, t, r, n1, _⟩ := hS _ hm; exact n1 (r.type h.net))
    row := ho.row h.row (fun hm => by obtain ⟨cc, t, r, _, n1, _⟩ := hS _ hm; exact n1 (r.type h.row))
    bag := h.bag.only ho (fun x hx hm => by
      obtain ⟨cc, t, r, _, _, n1, _⟩ := hS _ hm
      obtain ⟨c', R'⟩ := h.bag.blkRow x hx
      exact n1 (r.type R'))
    pk := fun j q f h1 h2 => (h.pk j q f h1 h2).only ho (fun x hx => by obtain ⟨cc, t, r, _, _, _, n1, n2⟩ := hS x hx; exact ⟨cc, t, r, n1, n2⟩) }
end
/-- A net of one path, in whose direction d these frames lie, and none in the other one. -/
def NetR (B : Nat) (w : World) (p g d : Nat) (C : Int) (fs : List (List (BitVec 8))) : Prop := ∃ c v qs, Lane B w p g 1 0 d true C 0 c v qs fs ∧ c[15 - d]? = some (.slice none 0 0)
section
variable {B : Nat} {w w' : World} {p g d : Nat} {C : Int} {fs : List (List (BitVec 8))}
theorem NetR.kept (h : NetR B w p g d C fs) (hb : Below w.heap.size w w') : NetR B w' p g d C fs := by
  obtain ⟨c, v, qs, h, e⟩ := h
  exact ⟨c, v, qs, h.kept hb, e⟩
theorem NetR.far {S : List Nat} (h : NetR B w p g d C fs) (ho : Only S w w') (hS : ∀ x ∈ S, ∃ cc t, Row w x cc t ∧ t ≠ 52 ∧ t ≠ 67 ∧ t ≠ 73 ∧ t ≠ 84 ∧ t ≠ 5) : NetR B w' p g d C fs := by
  obtain ⟨c, v, qs, h, e⟩ := h
  exact ⟨c, v, qs, h.far ho hS, e⟩
theorem NetR.grown {base m : Nat} {lv : Value} {xs : List Value} (h : NetR B w p g d C fs) (ow : w.ownsRow base 22 1 lv m xs) (hg : w.grownBy w' lv.ownBlock) : NetR B w' p g d C fs := by
  refine h.far (S := lv.ownBlock.toList) ⟨hg.os, hg.tape, hg.output, hg.size, fun k hk hs => hg.block k hk (fun e => hs (by rw [← e]; simp))⟩ (fun x hx => ?_)
  have hx' : lv.ownBlock = some x := by simpa using hx
  obtain ⟨cc, r⟩ := owns_block ow x hx'
  exact ⟨cc, 22, r, by decide⟩
theorem NetR.lt (h : NetR B w p g d C fs) : B ≤ w.heap.size := by
  obtain ⟨c, v, qs, h, e⟩ := h
  exact h.lt
theorem NetR.new (hB : B ≤ w.heap.size) (hC : 1 ≤ C) (hC2 : C ≤ 1073741824) {q : Nat} (h1 : w.heap.size ≤ q) (h2 : q < p) (R : Row w' q (roadv C) 67) (N : Row w' p [.slice (some ⟨q, 0, none⟩) 1 1] 52) (hd : d < 2) : NetR B w' p q d C [] :=
  ⟨_, _, _, lane_new hB hC hC2 h1 h2 R N hd, (by
    have hd' : d = 0 ∨ d = 1 := by omega
    rcases hd' with rfl | rfl <;> rfl)⟩
theorem NetR.put (h : NetR B w p g d C fs) (hlt : (fs.length : Int) < C) {a : Option Addr} {m cap : Nat} {bs : List (BitVec 8)} (hF : BytesAt w a bs) (hm : bs.length = m) (hm2 : m ≤ 140737488355328) :
    Calls Try.prog 10 #[.pointer (some ⟨p, 0, none⟩), .int .i64 0, .int .i64 d, .slice a m cap] w fun e w' => e = .returned (.tuple #[.bool true, .int .i64 0]) ∧ NetR B w' p g d C (fs ++ [bs]) ∧ Keeps B w w' := by
  obtain ⟨c, v, qs, h, e⟩ := h
  refine (h.put (cap := cap) hlt hF hm hm2).mono ?_
  rintro e w' ⟨rfl, c', v', qs', hl, hs, ho, hx⟩
  have hd := h.hd
  exact ⟨rfl, ⟨c', v', qs', hl, by rw [hs _ (by omega)]; assumption⟩, h.keeps ho⟩
theorem NetR.take (h : NetR B w p g d C fs) {j : Nat} (hj : j < fs.length) :
    Calls Try.prog 13 #[.pointer (some ⟨p, 0, none⟩), .int .i64 0, .int .i64 d, .int .i64 j] w fun e w' => ∃ g', e = .returned (.tuple #[.agg #[.slice (some ⟨g', 0, none⟩) fs[j].length fs[j].length, .bool false], .int .i64 0]) ∧ w.heap.size ≤ g' ∧ Row w' g' (bcells fs[j]) 5 ∧ NetR B w' p g d C (fs.eraseIdx j) ∧ Keeps B w w' := by
  obtain ⟨c, v, qs, h, e⟩ := h
  refine (h.take hj).mono ?_
  rintro e w' ⟨g', rfl, hg, hr, c', v', qs', hl, hs, ho, hx⟩
  have hd := h.hd
  exact ⟨g', rfl, hg, hr, ⟨c', v', qs', hl, by rw [hs _ (by omega)]; assumption⟩, h.keeps ho⟩
theorem NetR.peek (h : NetR B w p g d C fs) {j : Nat} (hj : j < fs.length) :
    Calls Try.prog 12 #[.pointer (some ⟨p, 0, none⟩), .int .i64 0, .int .i64 d, .int .i64 j] w fun e w' => ∃ g', e = .returned (.tuple #[.agg #[.slice (some ⟨g', 0, none⟩) fs[j].length fs[j].length, .bool false], .int .i64 0]) ∧ w.heap.size ≤ g' ∧ Row w' g' (bcells fs[j]) 5 ∧ Below w.heap.size w w' := by
  obtain ⟨c, v, qs, h, e⟩ := h
  exact h.peek hj
theorem NetR.look (h : NetR B w p g d C fs) :
    Calls Try.prog 15 #[.pointer (some ⟨p, 0, none⟩), .int .i64 0] w fun e w' => ∃ cv : List Value, e = .returned (.tuple #[.agg cv.toArray, .int .i64 0]) ∧ cv.length = 14 ∧ (∀ v ∈ cv, v.oneCell' = true) ∧ cv[2 + d]? = some (.int .i64 fs.length) ∧ cv[3 - d]? = some (.int .i64 0) ∧ Below w.heap.size w w' := by
  obtain ⟨c, v, qs, h, e⟩ := h
  have hd := h.hd
  have hl16 : c.length = 16 := h.len
  obtain ⟨a, cap, rfl⟩ := h.bag.shape
  have hbag := h.hbag
  have hcnt := h.cnt
  have hone : ∀ (n0 n1 : Nat), ∀ v ∈ (((c.drop 0).take 14).set 2 (.int .i64 n0)).set 3 (.int .i64 n1), v.oneCell' = true := fun n0 n1 => one_set (one_set (fun v hv => h.one v (List.mem_of_mem_drop (List.mem_of_mem_take hv))) _ rfl) _ rfl
  have hlen : ∀ (n0 n1 : Nat), ((((c.drop 0).take 14).set 2 (.int .i64 (n0 : Int))).set 3 (.int .i64 (n1 : Int))).length = 14 := fun n0 n1 => by simp; omega
  have hd' : d = 0 ∨ d = 1 := by omega
  rcases hd' with rfl | rfl
  · refine (look_in (k := 0) (n0 := qs.length) (n1 := 0) h.net h.row (by decide) (by rw [hl16]; decide) hbag e h.one).mono ?_
    rintro e w' ⟨rfl, hb⟩
    refine ⟨_, rfl, hlen _ _, hone _ _, ?_, ?_, hb⟩
    · rw [← hcnt, List.getElem?_set_ne (by decide), List.getElem?_set_self (by simp; omega)]
    · rw [List.getElem?_set_self (by simp; omega)]; rfl
  · refine (look_in (k := 0) (n0 := 0) (n1 := qs.length) h.net h.row (by decide) (by rw [hl16]; decide) e hbag h.one).mono ?_
    rintro e w' ⟨rfl, hb⟩
    refine ⟨_, rfl, hlen _ _, hone _ _, ?_, ?_, hb⟩
    · rw [← hcnt, List.getElem?_set_self (by simp; omega)]
    · rw [List.getElem?_set_ne (by decide), List.getElem?_set_self (by simp; omega)]; rfl
end
end Go.Proofs.Ytjnmfedefmemnaa
