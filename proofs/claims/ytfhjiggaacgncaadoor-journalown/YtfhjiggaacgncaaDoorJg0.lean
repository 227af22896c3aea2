import Derived.Test.YtfhjiggaacgncaaDoorJd7
import Derived.Test.YtfhjiggaacgncaaDoorJd4
namespace Go.Proofs.YtfhjiggaacgncaaDoor
open Go.RowKit Go.Maps Go.Sort
set_option maxRecDepth 100000

/-- A record: its kind, its body and where that lies. -/
structure Rc where
  k : BitVec 8
  v : Value
  b : List (BitVec 8)
def rcells (i : Nat) (x : Rc) : List Value := [.int .u64 (i : Nat), .int .u8 (ub x.k), x.v]
/-- Records as cells, numbered from i on. -/
def flatR : Nat → List Rc → List Value
  | _, [] => []
  | i, x :: r => rcells i x ++ flatR (i + 1) r
theorem flatR_len : ∀ (i : Nat) (R : List Rc), (flatR i R).length = R.length * 3
  | _, [] => rfl
  | i, x :: r => by rw [flatR, List.length_append, flatR_len (i + 1) r, List.length_cons]; simp [rcells]; omega
theorem flatR_app : ∀ (i : Nat) (A B : List Rc), flatR i (A ++ B) = flatR i A ++ flatR (i + A.length) B
  | i, [], B => rfl
  | i, x :: r, B => by rw [List.cons_append, flatR, flatR, flatR_app (i + 1) r B, List.append_assoc, List.length_cons, show i + 1 + r.length = i + (r.length + 1) by omega]
theorem flatR_at : ∀ (R : List Rc) (s i j : Nat) (h : i < R.length), j < 3 → (flatR s R)[i * 3 + j]? = (rcells (s + i) R[i])[j]?
  | x :: r, s, 0, j, _, hj => by
    rw [flatR, List.getElem?_append_left (by simp [rcells]; omega)]
    simp
  | x :: r, s, i + 1, j, h, hj => by
    rw [flatR, List.getElem?_append_right (by simp [rcells]; omega)]
    have := flatR_at r (s + 1) i j (by simpa using h) hj
    rw [show (i + 1) * 3 + j - (rcells s x).length = i * 3 + j by simp [rcells]; omega, this]
    simp [show s + 1 + i = s + (i + 1) by omega]
/-- A log on the disk at p: the life in which it was opened, the disk's size, its end, its records. -/
structure Lg where
  p : Nat
  born : Int
  size : Nat
  end_ : Nat
  rv : Value
  R : List Rc
def Lg.cells (G : Lg) : List Value := [.iface 22 (.pointer (some ⟨G.p, 0, none⟩)), .int .i64 G.born, .int .i64 (G.size : Nat), .int .i64 (G.end_ : Nat), G.rv]
structure LgAt (w : World) (q : Nat) (G : Lg) : Prop where
  row : Row w q G.cells 83
  recs : w.ownsRow 0 41 3 G.rv G.R.length (flatR 0 G.R)
  by_ : ∀ x ∈ G.R, OwnBy w 0 x.v x.b
def Lg.Mem (G : Lg) (q k : Nat) : Prop := k = q ∨ G.rv.ownBlock = some k ∨ ∃ x ∈ G.R, x.v.ownBlock = some k
section
variable {w w' : World} {q : Nat} {G : Lg}
theorem LgAt.lt (h : LgAt w q G) {k : Nat} (hk : G.Mem q k) : k < w.heap.size := by
  rcases hk with rfl | e | ⟨x, hx, e⟩
  · exact h.row.lt
  · exact own_lt h.recs e
  · exact own_lt (h.by_ x hx) e
theorem LgAt.fr {X : Nat → Prop} (h : LgAt w q G) (hf : Fr X w w') (hX : ∀ k, G.Mem q k → ¬ X k) : LgAt w' q G :=
  ⟨hf.row h.row (hX q (.inl rfl)), hf.own h.recs (fun x e => hX x (.inr (.inl e))), fun x hx => hf.own (h.by_ x hx) (fun g e => hX g (.inr (.inr ⟨x, hx, e⟩)))⟩
theorem LgAt.kept (h : LgAt w q G) (hb : Below w.heap.size w w') : LgAt w' q G := h.fr (X := fun _ => False) (Fr.of_below hb (Nat.le_refl _)) (fun _ _ e => e)
/-- What is neither a disk's nor a log's type is none of theirs. -/
theorem LgAt.other (h : LgAt w q G) {k : Nat} {c : Array Value} {t : TypeId} {f : Nat × Nat} (hk : w.heap[k]? = some (.cells c t f)) (h1 : t ≠ 83) (h2 : t ≠ 41) (h3 : t ≠ 5) : ¬ G.Mem q k := by
  rintro (rfl | e | ⟨x, hx, e⟩)
  · exact h1 (cells_type hk h.row.at_)
  · obtain ⟨cur, hg⟩ := own_blk h.recs e
    exact h2 (cells_type hk hg)
  · obtain ⟨cur, hg⟩ := own_blk (h.by_ x hx) e
    exact h3 (cells_type hk hg)
theorem len_any (h : LgAt w q G) : Calls Tryd.prog 15 #[pt q 0] w fun e w' => e = .returned (.int .u64 (G.R.length : Nat)) ∧ w' = w := by
  have c := h.row.cell 4 _ rfl
  obtain ⟨a, cap, e, h1, h2, _⟩ := own_len h.recs
  rw [e] at c
  unfold maxLen at h2
  have i1 : IntKind.u64.wrap (G.R.length : Int) = (G.R.length : Nat) := by rw [IntKind.wrap_u64]; omega
  clear h e
  generalize G.R.length = L at *
  go_enter Tryd.func15, Tryd.ntmps15
  go_wp2
  go_ret
  exact ⟨rfl, rfl⟩
/-- The room that is left. -/
def Lg.room (G : Lg) : Int := min ((G.size : Int) - G.end_ - 18) 65536
theorem room_any (h : LgAt w q G) (hs : G.size ≤ 16777216) (he : G.end_ ≤ G.size) : Calls Tryd.prog 18 #[pt q 0] w fun e w' => e = .returned (.int .i64 G.room) ∧ Below w.heap.size w w' := by
  have c2 := h.row.cell 2 _ rfl
  have c3 := h.row.cell 3 _ rfl
  have i1 : IntKind.i64.wrap ((G.size : Int) - G.end_) = (G.size : Int) - G.end_ := by rw [IntKind.wrap_i64]; omega
  have i2 : IntKind.i64.wrap ((G.size : Int) - G.end_ - 18) = (G.size : Int) - G.end_ - 18 := by rw [IntKind.wrap_i64]; omega
  have HR : Hid (G.room = min ((G.size : Int) - G.end_ - 18) 65536) := rfl
  generalize G.room = r at *
  clear h hs he
  generalize (G.size : Int) = s at *
  generalize (G.end_ : Int) = e at *
  go_enter Tryd.func18, Tryd.ntmps18
  go_upto_region 1 with fail
  go_region
  all_goals go_wp2
  all_goals go_ret
  all_goals exact ⟨by rw [HR.out]; rfl, below_drewN (Below.refl _ _) 1⟩
end
end Go.Proofs.YtfhjiggaacgncaaDoor
