import Derived.Test.YtjpllcliehgnfaaDoorJ22
import Derived.Laws.AppendOwn
import Derived.Laws.AppendOwnNone
import Derived.Laws.OwnMore
import Derived.Laws.MakeOwn
import Derived.Laws.IdiomStrings
import Derived.Laws.Strings
import Derived.BigQuiet
namespace Go.Proofs.YtjpllcliehgnfaaDoor.Tx
open Go.RowKit Go.Maps Go.Sort
set_option maxRecDepth 100000

theorem below_drewN {B : Nat} {a w : World} (h : Below B a w) (q : Nat) : Below B a (w.drewN q) := ⟨h.os, h.tape, h.output, h.size, h.block⟩

theorem BytesAt_nil (w : World) (a : Option Addr) : BytesAt w a [] := fun k hk => by simp at hk
/-- Bytes as a string. -/
def strOf (bs : List (BitVec 8)) : ByteArray := ⟨(bs.map UInt8.ofBitVec).toArray⟩
theorem ofBits_inj : ∀ {a b : List (BitVec 8)}, a.map UInt8.ofBitVec = b.map UInt8.ofBitVec → a = b
  | [], [], _ => rfl
  | x :: a, y :: b, h => by
    simp only [List.map_cons, List.cons.injEq] at h
    have h1 : x = y := by injection h.1
    rw [h1, ofBits_inj h.2]
theorem strOf_list (a : List (BitVec 8)) : (strOf a).toList = a.map UInt8.ofBitVec := by rw [ByteArray.toList_eq]; simp [strOf]
theorem convert_any {w : World} {a : Option Addr} {n cap : Nat} {bs : List (BitVec 8)} (hB : BytesAt w a bs) (hn : bs.length = n) : (convert 25 9 (.slice a n cap)).run Tryd.prog w = .ok (.string (strOf bs)) w := by
  cases a with
  | some ad =>
    have h := run_convert_bytes_back (P := Tryd.prog) w 25 9 5 ad cap (bs.map UInt8.ofBitVec) Tryd.underlying25 Tryd.underlying5 Tryd.underlying9 (fun j hj => by
      have hj' : j < bs.length := by simpa using hj
      obtain ⟨g, o, e, c⟩ := hB j hj'
      cases e
      rw [Addr.add_mid, c]
      simp [ub])
    rw [List.length_map, hn] at h
    exact h
  | none =>
    have h0 : bs = [] := by
      cases bs with
      | nil => rfl
      | cons x l => obtain ⟨g, o, e, _⟩ := hB 0 (by simp); cases e
    subst h0
    subst hn
    rw [run_convert_bytes_string w 25 9 5 none _ cap Tryd.underlying25 Tryd.underlying5 Tryd.underlying9]
    rfl
theorem own_ge {w : World} {base : Nat} {e : TypeId} {size : Nat} {v : Value} {n : Nat} {xs : List Value} (h : w.ownsRow base e size v n xs) {g : Nat} (hg : v.ownBlock = some g) : base ≤ g := by
  rcases h.2 with ⟨rfl, _⟩ | ⟨g', cap, cur, rfl, h1, _⟩
  · simp [Value.ownBlock] at hg
  · simp [Value.ownBlock] at hg; omega
theorem own_below {w w' : World} {base : Nat} {e : TypeId} {size : Nat} {v : Value} {n : Nat} {xs : List Value} (h : w.ownsRow base e size v n xs) (hb : Below w.heap.size w w') : w'.ownsRow base e size v n xs := by
  refine ⟨h.1, h.2.imp id ?_⟩
  rintro ⟨g, cap, cur, h1, h2, h3, h4⟩
  exact ⟨g, cap, cur, h1, h2, (hb.block g (Array.getElem?_eq_some_iff.1 h3).1).trans h3, h4⟩
theorem own_lt {w : World} {base : Nat} {e : TypeId} {size : Nat} {v : Value} {n : Nat} {xs : List Value} (h : w.ownsRow base e size v n xs) {g : Nat} (hg : v.ownBlock = some g) : g < w.heap.size := by
  rcases h.2 with ⟨rfl, _⟩ | ⟨g', cap, cur, rfl, h1, h2, _⟩
  · simp [Value.ownBlock] at hg
  · simp [Value.ownBlock] at hg
    subst hg
    exact (Array.getElem?_eq_some_iff.1 h2).1
theorem own_less {w : World} {base b2 : Nat} {e : TypeId} {size : Nat} {v : Value} {n : Nat} {xs : List Value} (h : w.ownsRow base e size v n xs) (hb : b2 ≤ base) : w.ownsRow b2 e size v n xs := by
  refine ⟨h.1, h.2.imp id ?_⟩
  rintro ⟨g, cap, cur, h1, h2, h3⟩
  exact ⟨g, cap, cur, h1, Nat.le_trans hb h2, h3⟩
/-- An own row of bytes. -/
abbrev OwnBy (w : World) (base : Nat) (v : Value) (l : List (BitVec 8)) : Prop := w.ownsRow base 5 1 v l.length (bcells l)
theorem ownBy_shape {w : World} {base : Nat} {v : Value} {l : List (BitVec 8)} (h : OwnBy w base v l) : ∃ a cap, v = .slice a l.length cap ∧ BytesAt w a l ∧ l.length ≤ cap ∧ cap ≤ maxLen ∧ (a = none → cap = 0) ∧ (∀ g o, a = some ⟨g, o, none⟩ → base ≤ g ∧ o = 0 ∧ ∃ cur, w.heap[g]? = some (.cells cur 5 (0, 0)) ∧ cur.size = cap) := by
  obtain ⟨hl, ⟨rfl, hn⟩ | ⟨g, cap, cur, rfl, hb, hg, hnc, hcm, hcs, htk⟩⟩ := h
  · exact ⟨none, 0, by rw [hn], fun k hk => by omega, by omega, Nat.zero_le _, fun _ => rfl, fun g o e => (by cases e)⟩
  · refine ⟨some ⟨g, 0, none⟩, cap, rfl, fun k hk => ⟨g, 0, rfl, ?_⟩, hnc, hcm, fun e => (by cases e), fun g' o e => (by cases e; exact ⟨hb, rfl, cur, hg, by simpa using hcs⟩)⟩
    have h1 := bcells_get hk
    rw [Nat.zero_add, cell_of_row w g _ _ _ _ hg, ← h1, ← htk, List.getElem?_take, if_pos (by omega), Array.getElem?_toList]
/-- 'append' of bytes that may be none to an own row. -/
theorem wpAppendA {ops : Array Oper} {rest : List Oper} {o : Oper} {a : Act} {w : World} {Q : Exit → Act → World → Prop} (s x : Operand) (hgd : o.guard = none) (ho : o.op = .call { callee := .builtin .append, args := #[s, x], argTypes := #[25, 25] })
    {base k : Nat} {v : Value} {old : List (BitVec 8)} (hs : a.eval s = v) (hown : w.ownsRow base 5 1 v k (bcells old)) (hbase : base ≤ w.heap.size)
    {ax : Option Addr} {n c : Nat} {bs : List (BitVec 8)} (hx : a.eval x = .slice ax n c) (hz : ax = none → c = 0) (hn : bs.length = n) (hB : BytesAt w ax bs) (hl : k + n ≤ 140737488355328)
    (h : ∀ w' v', Hid (w'.ownsRow base 5 1 v' (k + n) (bcells (old ++ bs))) → Hid (w.grownBy w' v.ownBlock ∧ (v'.ownBlock = v.ownBlock ∨ v'.ownBlock = some w.heap.size)) → wpList Tryd.prog ops Q rest (a.put o.dst v') w') : wpList Tryd.prog ops Q (o :: rest) a w := by
  obtain ⟨i, h1, h2, h3, h4⟩ := info5
  subst hn
  cases ax with
  | none =>
    obtain rfl : bs = [] := by
      cases bs with
      | nil => rfl
      | cons b l => obtain ⟨g, o, e, _⟩ := hB 0 (by simp); cases e
    obtain rfl : c = 0 := hz rfl
    refine wpList_append_own_none hgd s x 25 ho base 5 i 1 Tryd.underlying25 h1 v k (bcells old) hs hown hx (h w v ?_ ⟨World.grownBy.refl _ _, .inl rfl⟩)
    show World.ownsRow _ _ _ _ _ _ _
    rw [List.append_nil]
    exact hown
  | some ad =>
    refine wpList_append_own_at w hgd s x 25 ho base 5 i (.int .u8 0) 1 1 Tryd.underlying25 h1 h2 h3 h4 rfl (by decide) v k (bcells old) hs hown ad bs.length c (bcells bs) hx (by rw [bcells_len]; omega) ?_ (bcells_one _) (by unfold maxLen; omega) (by omega) hbase ?_
    · intro j u hv
      have hj : j < bs.length := by
        have := (List.getElem?_eq_some_iff.1 hv).1
        rwa [bcells_len] at this
      obtain ⟨g2, o2, e2, c2⟩ := hB j hj
      cases e2
      rw [bcells_get hj] at hv
      rw [Addr.add_mid, c2]
      exact hv
    · intro v' w' hown' hgrow _ hat
      refine h w' v' ?_ ⟨hgrow, hat⟩
      show World.ownsRow _ _ _ _ _ _ _
      rw [show bcells (old ++ bs) = bcells old ++ bcells bs by simp [bcells]]
      exact hown'
theorem strOf_eq (a b : List (BitVec 8)) : ((strOf a).toList == (strOf b).toList) = decide (a = b) := by
  rw [strOf_list, strOf_list]
  by_cases h : a = b
  · subst h; simp
  · rw [decide_eq_false h, beq_eq_false_iff_ne]
    exact fun e => h (ofBits_inj e)
/-- The same bytes? -/
theorem psame_any {w : World} {a a' : Option Addr} {n n' c c' : Nat} {bs bs' : List (BitVec 8)} (hx : BytesAt w a bs) (hn : bs.length = n) (hy : BytesAt w a' bs') (hn' : bs'.length = n') :
    Calls Tryd.prog 20 #[.slice a n c, .slice a' n' c'] w fun e w' => e = .returned (.bool (decide (bs = bs'))) ∧ w' = w := by
  have h1 := convert_any (cap := c) hx hn
  have h2 := convert_any (cap := c') hy hn'
  have H3 := hid (strOf_eq bs bs')
  clear hx hy hn hn'
  generalize strOf bs = sx at *
  generalize strOf bs' = sy at *
  go_enter Tryd.func20, Tryd.ntmps20
  go_wp2
  go_ret
  refine ⟨?_, rfl⟩
  rw [← H3.out]
  rfl
theorem box_range (w : World) (t : TypeId) (l : List Value) : ∀ j u, l[j]? = some u → (w.alloc (.cells l.toArray t)).cell? ((⟨w.heap.size, 0, none⟩ : Addr).add j) = some u := fun j u hj => by
  rw [Addr.add_lit, Nat.zero_add]
  exact (Row.new w l t).cell j u hj
section
variable {ops : Array Oper} {o : Oper} {a : Act} {w : World} {K : Act → World → Prop} {Q : Exit → Act → World → Prop}
theorem step_callv {f : FuncId} {args : Array Value} {G : Value → World → Prop} (e : (execOp a.eval o).run Tryd.prog w = .ok (.enter f args) w)
    (hc : Calls Tryd.prog f args w fun e w' => ∃ v, e = .returned v ∧ G v w') (h : ∀ v w', G v w' → K (a.put o.dst v) w') : Oper.wp Tryd.prog o a w K Q := by
  unfold Oper.wp
  rw [e, Oper.upon_enter]
  refine Calls.mono hc ?_
  rintro e w' ⟨v, rfl, hg⟩
  exact h v w' hg
end
/-- The same bytes? -/
theorem psame_yes {w : World} {a a' : Option Addr} {n c c' : Nat} {bs : List (BitVec 8)} (hx : BytesAt w a bs) (hn : bs.length = n) (hy : BytesAt w a' bs) :
    Calls Tryd.prog 20 #[.slice a n c, .slice a' n c'] w fun e w' => e = .returned (.bool true) ∧ w' = w := by
  refine (psame_any hx hn hy hn).mono ?_
  rintro e w' ⟨rfl, rfl⟩
  exact ⟨by simp, rfl⟩
end Go.Proofs.YtjpllcliehgnfaaDoor.Tx
