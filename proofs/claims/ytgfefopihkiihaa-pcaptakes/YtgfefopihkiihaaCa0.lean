import Derived.Test.YtgfefopihkiihaaBy0
namespace Go.Proofs.Ytgfefopihkiihaa
open Go.RowKit Go.Maps
set_option maxRecDepth 100000

section
variable {α : Type} (f : α → List Value) (n : Nat)
/-- Rows of structs as cells. -/
def flat (L : List α) : List Value := L.flatMap f
variable {f n}
theorem flat_len (hf : ∀ x, (f x).length = n) : ∀ L : List α, (flat f L).length = L.length * n
  | [] => by simp [flat]
  | x :: r => by
    have ih := flat_len hf r
    simp only [flat, List.flatMap_cons, List.length_append, List.length_cons] at *
    rw [ih, hf, Nat.add_mul, Nat.one_mul, Nat.add_comm]
theorem flat_app (a b : List α) : flat f (a ++ b) = flat f a ++ flat f b := by simp [flat]
theorem flat_get (hf : ∀ x, (f x).length = n) : ∀ {L : List α} {k : Nat} {x : α}, L[k]? = some x → ∀ {j : Nat} {v : Value}, (f x)[j]? = some v → (flat f L)[k * n + j]? = some v
  | [], _, _, h, _, _, _ => by simp at h
  | y :: r, 0, x, h, j, v, hv => by
    cases h
    have hj : j < (f y).length := (List.getElem?_eq_some_iff.1 hv).1
    simp only [flat, List.flatMap_cons, Nat.zero_mul, Nat.zero_add]
    rw [List.getElem?_append_left hj]
    exact hv
  | y :: r, k + 1, x, h, j, v, hv => by
    have ih := flat_get hf (L := r) (k := k) (x := x) (by simpa using h) hv
    simp only [flat, List.flatMap_cons] at *
    rw [List.getElem?_append_right (by rw [hf, Nat.add_mul]; omega), hf]
    rw [show (k + 1) * n + j - n = k * n + j by rw [Nat.add_mul]; omega]
    exact ih
/-- Structs that lie from an address on. -/
def RowAt (f : α → List Value) (n : Nat) (w : World) (a : Option Addr) (L : List α) : Prop :=
  ∀ (k : Nat) x, L[k]? = some x → ∃ g o, a = some ⟨g, o, none⟩ ∧ ∀ (j : Nat) v, (f x)[j]? = some v → w.cell? ⟨g, o + k * n + j, none⟩ = some v
theorem RowAt.kept {w w' : World} {a : Option Addr} {L : List α} (h : RowAt f n w a L) (hb : Below w.heap.size w w') : RowAt f n w' a L := fun k x hx => by
  obtain ⟨g, o, e, hc⟩ := h k x hx
  exact ⟨g, o, e, fun j v hv => cell_kept hb (hc j v hv)⟩
theorem RowAt.nil (w : World) (a : Option Addr) : RowAt f n w a [] := fun k x hx => by simp at hx
/-- An own row of structs is read. -/
theorem own_row_at (hf : ∀ x, (f x).length = n) {w : World} {b : Nat} {t : TypeId} {v : Value} {L : List α} (h : w.ownsRow b t n v L.length (flat f L)) : ∃ a cap, v = .slice a L.length cap ∧ RowAt f n w a L ∧ (a = none → cap = 0) ∧ L.length ≤ cap ∧ ∀ g o, a = some ⟨g, o, none⟩ → b ≤ g ∧ o = 0 := by
  obtain ⟨hl, ⟨rfl, hn⟩ | ⟨g, cap, cur, rfl, hb, hg, hnc, hcm, hcs, htk⟩⟩ := h
  · refine ⟨none, 0, by rw [hn], fun k x hx => ?_, fun _ => rfl, by omega, fun g o e => (by cases e)⟩
    have := (List.getElem?_eq_some_iff.1 hx).1
    omega
  · refine ⟨_, cap, rfl, fun k x hx => ⟨g, 0, rfl, fun j v hv => ?_⟩, fun e => (by cases e), hnc, fun g' o e => (by cases e; exact ⟨hb, rfl⟩)⟩
    have h1 := flat_get hf hx hv
    have hj := (List.getElem?_eq_some_iff.1 hv).1
    have hk := (List.getElem?_eq_some_iff.1 hx).1
    rw [hf] at hj
    have hlt : k * n + j < L.length * n := by
      have h2 : (k + 1) * n ≤ L.length * n := Nat.mul_le_mul_right n (by omega)
      rw [Nat.add_mul] at h2
      omega
    rw [Nat.zero_add, cell_of_row w g _ _ _ _ hg, ← Array.getElem?_toList, ← h1, ← htk, List.getElem?_take, if_pos hlt]
end
/-- An event. -/
structure Evt where
  what : Int
  side : Int
  path : Int
  clock : Int
  fa : Option Addr
  fc : Nat
  bs : List (BitVec 8)
/-- A packet. -/
structure Pkt where
  sec : Int
  part : Int
  len : Int
  fa : Option Addr
  fc : Nat
  bs : List (BitVec 8)
abbrev Evt.val (e : Evt) : Value := .slice e.fa e.bs.length e.fc
abbrev Pkt.val (p : Pkt) : Value := .slice p.fa p.bs.length p.fc
def ecells (e : Evt) : List Value := [.int .i64 e.what, .int .i64 e.side, .int .i64 e.path, .int .u64 e.clock, e.val]
def pcells (p : Pkt) : List Value := [.int .u32 p.sec, .int .u32 p.part, .int .u32 p.len, p.val]
theorem ecells_len (e : Evt) : (ecells e).length = 5 := rfl
theorem pcells_len (p : Pkt) : (pcells p).length = 4 := rfl
theorem ecells_one (e : Evt) : ∀ u ∈ ecells e, u.oneCell' = true := by
  intro u hu
  simp only [ecells, List.mem_cons, List.not_mem_nil, or_false] at hu
  rcases hu with rfl | rfl | rfl | rfl | rfl <;> rfl
theorem pcells_one (p : Pkt) : ∀ u ∈ pcells p, u.oneCell' = true := by
  intro u hu
  simp only [pcells, List.mem_cons, List.not_mem_nil, or_false] at hu
  rcases hu with rfl | rfl | rfl | rfl <;> rfl
/-- What an event says. -/
def Evt.view (e : Evt) : Int × Int × Int × Int × List (BitVec 8) := (e.what, e.side, e.path, e.clock, e.bs)
/-- What a packet says. -/
def Pkt.view (p : Pkt) : Int × Int × Int × List (BitVec 8) := (p.sec, p.part, p.len, p.bs)
structure EvtOk (w : World) (e : Evt) : Prop where
  at_ : BytesAt w e.fa e.bs
  len : e.bs.length ≤ 140737488355328
  c0 : 0 ≤ e.clock
  c1 : e.clock < 18446744073709551616
  nil : e.fa = none → e.fc = 0
structure PktOk (w : World) (p : Pkt) : Prop where
  at_ : BytesAt w p.fa p.bs
  len : p.bs.length ≤ 140737488355328
  s0 : 0 ≤ p.sec
  s1 : p.sec < 4294967296
  p0 : 0 ≤ p.part
  p1 : p.part < 4294967296
  l0 : 0 ≤ p.len
  l1 : p.len < 4294967296
  nil : p.fa = none → p.fc = 0
theorem EvtOk.kept {w w' : World} {e : Evt} (h : EvtOk w e) (hb : Below w.heap.size w w') : EvtOk w' e := ⟨h.at_.kept hb, h.len, h.c0, h.c1, h.nil⟩
theorem PktOk.kept {w w' : World} {p : Pkt} (h : PktOk w p) (hb : Below w.heap.size w w') : PktOk w' p := ⟨h.at_.kept hb, h.len, h.s0, h.s1, h.p0, h.p1, h.l0, h.l1, h.nil⟩
/-- Events that can be read. -/
structure EvsAt (w : World) (a : Option Addr) (L : List Evt) : Prop where
  row : RowAt ecells 5 w a L
  ok : ∀ e ∈ L, EvtOk w e
/-- Packets that can be read. -/
structure PksAt (w : World) (a : Option Addr) (L : List Pkt) : Prop where
  row : RowAt pcells 4 w a L
  ok : ∀ p ∈ L, PktOk w p
theorem EvsAt.kept {w w' : World} {a : Option Addr} {L : List Evt} (h : EvsAt w a L) (hb : Below w.heap.size w w') : EvsAt w' a L := ⟨h.row.kept hb, fun e he => (h.ok e he).kept hb⟩
theorem PksAt.kept {w w' : World} {a : Option Addr} {L : List Pkt} (h : PksAt w a L) (hb : Below w.heap.size w w') : PksAt w' a L := ⟨h.row.kept hb, fun e he => (h.ok e he).kept hb⟩
/-- Packets whose row and bytes can be read. -/
structure PksRd (w : World) (a : Option Addr) (L : List Pkt) : Prop where
  row : RowAt pcells 4 w a L
  at_ : ∀ p ∈ L, BytesAt w p.fa p.bs
theorem PksRd.kept {w w' : World} {a : Option Addr} {L : List Pkt} (h : PksRd w a L) (hb : Below w.heap.size w w') : PksRd w' a L := ⟨h.row.kept hb, fun e he => (h.at_ e he).kept hb⟩
theorem PksAt.rd {w : World} {a : Option Addr} {L : List Pkt} (h : PksAt w a L) : PksRd w a L := ⟨h.row, fun e he => (h.ok e he).at_⟩
/-- Own packets: the row and what each holds is memory from b on. -/
structure PksOwn (w : World) (b : Nat) (v : Value) (L : List Pkt) : Prop where
  row : w.ownsRow b 58 4 v L.length (flat pcells L)
  by_ : ∀ p ∈ L, OwnBy w b p.val p.bs
structure EvsOwn (w : World) (b : Nat) (v : Value) (L : List Evt) : Prop where
  row : w.ownsRow b 33 5 v L.length (flat ecells L)
  by_ : ∀ e ∈ L, OwnBy w b e.val e.bs
theorem PksOwn.kept {w w' : World} {b : Nat} {v : Value} {L : List Pkt} (h : PksOwn w b v L) (hb : Below w.heap.size w w') : PksOwn w' b v L := ⟨own_below h.row hb, fun p hp => own_below (h.by_ p hp) hb⟩
theorem EvsOwn.kept {w w' : World} {b : Nat} {v : Value} {L : List Evt} (h : EvsOwn w b v L) (hb : Below w.heap.size w w') : EvsOwn w' b v L := ⟨own_below h.row hb, fun p hp => own_below (h.by_ p hp) hb⟩
theorem own_blk {w : World} {base : Nat} {t : TypeId} {sz : Nat} {v : Value} {n : Nat} {xs : List Value} (h : w.ownsRow base t sz v n xs) {g : Nat} (e : v.ownBlock = some g) : ∃ cur, w.heap[g]? = some (.cells cur t (0, 0)) := by
  rcases h.2 with ⟨rfl, _⟩ | ⟨g', cap, cur, rfl, _, hg, _⟩
  · simp [Value.ownBlock] at e
  · simp only [Value.ownBlock, Option.some.injEq] at e
    subst e
    exact ⟨cur, hg⟩
theorem cells_type {w : World} {g : Nat} {c c' : Array Value} {t t' : TypeId} {f f' : Nat × Nat} (h : w.heap[g]? = some (.cells c t f)) (h' : w.heap[g]? = some (.cells c' t' f')) : t = t' := by
  rw [h] at h'
  injection h' with h'
  injection h' with _ h'
/-- Rows of other types lie elsewhere. -/
theorem own_two {w : World} {b b' : Nat} {t t' : TypeId} {sz sz' : Nat} {v v' : Value} {n n' : Nat} {xs xs' : List Value} (h : w.ownsRow b t sz v n xs) (h' : w.ownsRow b' t' sz' v' n' xs') (ht : t ≠ t') {g : Nat} (e : v.ownBlock = some g) : v'.ownBlock ≠ some g := fun e' => by
  obtain ⟨_, h1⟩ := own_blk h e
  obtain ⟨_, h2⟩ := own_blk h' e'
  exact ht (cells_type h1 h2)
theorem own_row {w : World} {b : Nat} {t t' : TypeId} {sz : Nat} {v : Value} {n : Nat} {xs : List Value} {g : Nat} {c : List Value} (h : w.ownsRow b t sz v n xs) (h' : Row w g c t') (ht : t ≠ t') : v.ownBlock ≠ some g := fun e => by
  obtain ⟨_, h1⟩ := own_blk h e
  exact ht (cells_type h1 h'.at_)
theorem fr_row (w : World) (b : Nat) (cs : Array Value) : Fr (fun j => j = b) w (w.setRow b cs) := by
  have := Only.setRow (S := [b]) (Only.refl [b] w) b cs (.inl (by simp))
  exact ⟨this.os, this.tape, this.output, this.size, fun k hk hne => this.block k hk (fun e => hne (by simpa using e))⟩
/-- The lowest n bytes of a number, highest first. -/
def be (x : Int) : Nat → List (BitVec 8)
  | 0 => []
  | k + 1 => be (x / 256) k ++ [BitVec.ofInt 8 x]
theorem be_len : ∀ (k : Nat) (x : Int), (be x k).length = k
  | 0, _ => rfl
  | k + 1, x => by simp [be, be_len k]
theorem ofInt_mod (x : Int) : BitVec.ofInt 8 (x % 256) = BitVec.ofInt 8 x := by
  apply BitVec.eq_of_toInt_eq
  simp [BitVec.toInt_ofInt, Int.bmod_def]
/-- A packet's data. -/
def dat (e : Evt) : List (BitVec 8) := 98#8 :: BitVec.ofInt 8 e.what :: BitVec.ofInt 8 e.side :: BitVec.ofInt 8 e.path :: (be e.clock 8 ++ e.bs)
theorem dat_len (e : Evt) : (dat e).length = e.bs.length + 12 := by simp [dat, be_len]; omega
/-- May an event be? -/
def Evt.good (e : Evt) : Bool := decide (1 ≤ e.what) && decide (e.what < 7) && (decide (e.side = 0) || decide (e.side = 1)) && decide (0 ≤ e.path) && decide (e.path < 8)
/-- What its packet says. -/
def Evt.pk (e : Evt) (m : Int) : Int × Int × Int × List (BitVec 8) := (e.clock / 1000 % 4294967296, e.clock % 1000 * m, ((e.bs.length : Int) + 12) % 4294967296, dat e)
theorem inf33 : ∃ i : TypeInfo, Try.prog.info? 33 = some i ∧ i.zero = some (.agg #[.int .i64 0, .int .i64 0, .int .i64 0, .int .u64 0, .slice none 0 0]) ∧ i.size = 5 ∧ i.bytes = 56 := by
  have h : (Try.prog.info? 33).map (fun i => (i.zero, i.size, i.bytes)) = some (some (.agg #[.int .i64 0, .int .i64 0, .int .i64 0, .int .u64 0, .slice none 0 0]), 5, 56) := by kernel_rfl
  cases hq : Try.prog.info? 33 with
  | none => rw [hq] at h; cases h
  | some i => rw [hq] at h; simp at h; exact ⟨i, rfl, h.1, h.2.1, h.2.2⟩
theorem inf58 : ∃ i : TypeInfo, Try.prog.info? 58 = some i ∧ i.zero = some (.agg #[.int .u32 0, .int .u32 0, .int .u32 0, .slice none 0 0]) ∧ i.size = 4 ∧ i.bytes = 40 := by
  have h : (Try.prog.info? 58).map (fun i => (i.zero, i.size, i.bytes)) = some (some (.agg #[.int .u32 0, .int .u32 0, .int .u32 0, .slice none 0 0]), 4, 40) := by kernel_rfl
  cases hq : Try.prog.info? 58 with
  | none => rw [hq] at h; cases h
  | some i => rw [hq] at h; simp at h; exact ⟨i, rfl, h.1, h.2.1, h.2.2⟩
theorem info_33 : (Try.prog.info? 33).map (·.size) = some 5 := by kernel_rfl
theorem info_58 : (Try.prog.info? 58).map (·.size) = some 4 := by kernel_rfl
theorem info_27 : (Try.prog.info? 27).map (·.size) = some 5 := by kernel_rfl
theorem bsl22 (w : World) (a b c d : Int) (x : Option Addr) (n k : Nat) : (Instr.buildSlice 22 1 #[(0, .agg #[.int .i64 a, .int .i64 b, .int .i64 c, .int .u64 d, .slice x n k])]).run Try.prog w = .ok (.slice (some ⟨w.heap.size, 0, none⟩) 1 1) (w.alloc (.cells #[.int .i64 a, .int .i64 b, .int .i64 c, .int .u64 d, .slice x n k] 33)) := by kernel_rfl
theorem bsl25 (w : World) (a b c : Int) (x : Option Addr) (n k : Nat) : (Instr.buildSlice 25 1 #[(0, .agg #[.int .u32 a, .int .u32 b, .int .u32 c, .slice x n k])]).run Try.prog w = .ok (.slice (some ⟨w.heap.size, 0, none⟩) 1 1) (w.alloc (.cells #[.int .u32 a, .int .u32 b, .int .u32 c, .slice x n k] 58)) := by kernel_rfl
theorem bsl31 (w : World) (x : Int) : (Instr.buildSlice 31 1 #[(0, .int .u8 x)]).run Try.prog w = .ok (.slice (some ⟨w.heap.size, 0, none⟩) 1 1) (w.alloc (.cells #[.int .u8 x] 5)) := by kernel_rfl
/-- An event behind an own row of them. -/
theorem wpAppendE {ops : Array Oper} {rest : List Oper} {o : Oper} {a : Act} {w : World} {Q : Exit → Act → World → Prop} (s x : Operand) (hgd : o.guard = none) (ho : o.op = .call { callee := .builtin .append, args := #[s, x], argTypes := #[22, 22] })
    {base : Nat} {v : Value} {L : List Evt} (hs : a.eval s = v) (hown : w.ownsRow base 33 5 v L.length (flat ecells L)) (hbase : base ≤ w.heap.size)
    {bx : Nat} {e : Evt} (hx : a.eval x = .slice (some ⟨bx, 0, none⟩) 1 1) (R : Row w bx (ecells e) 33) (hl : L.length + 1 ≤ 2513169434916)
    (h : ∀ w' v', Hid (w'.ownsRow base 33 5 v' (L ++ [e]).length (flat ecells (L ++ [e]))) → Hid (w.grownBy w' v.ownBlock ∧ (v'.ownBlock = v.ownBlock ∨ v'.ownBlock = some w.heap.size)) → wpList Try.prog ops Q rest (a.put o.dst v') w') : wpList Try.prog ops Q (o :: rest) a w := by
  obtain ⟨i, i1, i2, i3, i4⟩ := inf33
  refine wpList_append_own_at w hgd s x 22 ho base 33 i _ 5 56 Try.underlying22 i1 i2 i3 i4 rfl (by decide) v L.length (flat ecells L) hs hown ⟨bx, 0, none⟩ 1 1 (ecells e) hx rfl ?_ (ecells_one e) (by unfold maxLen; omega) (by omega) hbase ?_
  · intro j u hu
    rw [Addr.add_mid]
    exact R.cell _ _ (by simpa using hu)
  · intro v' w' hown' hgrow _ hat
    refine h w' v' ?_ ⟨hgrow, hat⟩
    show World.ownsRow _ _ _ _ _ _ _
    rw [show (L ++ [e]).length = L.length + 1 by simp, flat_app, show flat ecells [e] = ecells e by simp [flat]]
    exact hown'
/-- A packet behind an own row of them. -/
theorem wpAppendP {ops : Array Oper} {rest : List Oper} {o : Oper} {a : Act} {w : World} {Q : Exit → Act → World → Prop} (s x : Operand) (hgd : o.guard = none) (ho : o.op = .call { callee := .builtin .append, args := #[s, x], argTypes := #[25, 25] })
    {base : Nat} {v : Value} {L : List Pkt} (hs : a.eval s = v) (hown : w.ownsRow base 58 4 v L.length (flat pcells L)) (hbase : base ≤ w.heap.size)
    {bx : Nat} {e : Pkt} (hx : a.eval x = .slice (some ⟨bx, 0, none⟩) 1 1) (R : Row w bx (pcells e) 58) (hl : L.length + 1 ≤ 3518437208883)
    (h : ∀ w' v', Hid (w'.ownsRow base 58 4 v' (L ++ [e]).length (flat pcells (L ++ [e]))) → Hid (w.grownBy w' v.ownBlock ∧ (v'.ownBlock = v.ownBlock ∨ v'.ownBlock = some w.heap.size)) → wpList Try.prog ops Q rest (a.put o.dst v') w') : wpList Try.prog ops Q (o :: rest) a w := by
  obtain ⟨i, i1, i2, i3, i4⟩ := inf58
  refine wpList_append_own_at w hgd s x 25 ho base 58 i _ 4 40 Try.underlying25 i1 i2 i3 i4 rfl (by decide) v L.length (flat pcells L) hs hown ⟨bx, 0, none⟩ 1 1 (pcells e) hx rfl ?_ (pcells_one e) (by unfold maxLen; omega) (by omega) hbase ?_
  · intro j u hu
    rw [Addr.add_mid]
    exact R.cell _ _ (by simpa using hu)
  · intro v' w' hown' hgrow _ hat
    refine h w' v' ?_ ⟨hgrow, hat⟩
    show World.ownsRow _ _ _ _ _ _ _
    rw [show (L ++ [e]).length = L.length + 1 by simp, flat_app, show flat pcells [e] = pcells e by simp [flat]]
    exact hown'
end Go.Proofs.Ytgfefopihkiihaa
