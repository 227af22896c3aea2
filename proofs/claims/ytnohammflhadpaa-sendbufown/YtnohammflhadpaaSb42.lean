import Derived.Test.YtnohammflhadpaaSb39
import Derived.Test.YtnohammflhadpaaSb41
import Derived.Laws.AppendOwnNone
namespace Go.Proofs.Ytnohammflhadpaa
open Go.RowKit Go.Maps Go.Sort
set_option maxRecDepth 100000

/-- A copy of bytes, whatever a nil slice's room says. -/
theorem clone_all {w : World} {a : Option Addr} {n cap : Nat} {bs : List (BitVec 8)} (hB : BytesAt w a bs) (hn : bs.length = n) (hl : n ≤ 1048576) :
    Calls Try.prog 38 #[.slice a n cap] w (CloneAns w bs n) := by
  cases a with
  | none =>
    obtain rfl : bs = [] := by
      cases bs with
      | nil => rfl
      | cons b l => obtain ⟨g, o, e, _⟩ := hB 0 (by simp); cases e
    obtain rfl : n = 0 := hn.symm
    clear hB hn
    have HP : Hid (CloneAns w [] 0 (.returned (.slice none 0 0)) w) := ⟨none, 0, rfl, fun k hk => absurd hk (Nat.not_lt_zero _), Nat.le_refl _, Nat.zero_le _, fun g o e => (by cases e), Below.refl _ _⟩
    have he : ∀ w : World, (binOp .eql 25 (.slice none 0 cap) (.slice none 0 0)).run Try.prog w = .ok (.bool true) w := fun _ => rfl
    go_enter Try.func38, Try.ntmps38
    go_wp2
    go_ret
    exact HP.out
  | some ad => exact clone_any hB hn hl (fun e => by cases e)
/-- What Bytes answers, of any chunk. -/
theorem bytes_all {w : World} {p : Nat} {F : Sb} {a : Option Addr} {cap : Nat} (h : SbR w p F a cap) {k : Nat} (hkl : k < F.L.length) :
    Calls Try.prog 27 #[.pointer (some ⟨p, 0, none⟩), .int .u64 F.L[k].off] w (fun e w' => ∃ w1, Below w.heap.size w w1 ∧ CloneAns w1 F.L[k].bs F.L[k].bs.length e w') := by
  obtain ⟨g, o, e', hcl⟩ := h.ck k hkl
  cases e'
  have HA := hid (at_some h ⟨hkl, rfl⟩)
  have q1 := hcl 1 _ rfl
  have HC : Hid (∀ w1, Below w.heap.size w w1 → Calls Try.prog 38 #[.slice F.L[k].a F.L[k].bs.length F.L[k].cap] w1 (CloneAns w1 F.L[k].bs F.L[k].bs.length)) := fun w1 hb => clone_all ((h.by_ _ (List.getElem_mem hkl)).kept hb) rfl (by have h1 := h.ok.ck _ (List.getElem_mem hkl); have h2 := h1.cap; have h3 := h1.capm; omega)
  have HQ : Hid (∀ w1, Below w.heap.size w w1 → w1.cell? ⟨g, o + k * 6 + 1, none⟩ = some (.slice F.L[k].a F.L[k].bs.length F.L[k].cap)) := fun w1 hb => cell_kept hb q1
  generalize F.L[k] = c at *
  clear h hcl q1
  go_enter Try.func27, Try.ntmps27
  go_wp2_with (first | (go_at_call 40; refine HA.out.mono ?_; rintro e w1 ⟨rfl, hb1⟩; have HB1 := hid hb1; have r1 := HQ.out w1 hb1; clear hb1) | (go_at_call 38; refine (HC.out w1 HB1.out).mono ?_; rintro e w2 ⟨a', c', rfl, hA⟩; have HX := hid hA; clear hA))
  go_ret
  exact ⟨w1, HB1.out, a', c', rfl, HX.out⟩
theorem strOf_eq (a b : List (BitVec 8)) : decide ((strOf a).toList = (strOf b).toList) = decide (a = b) := by
  rw [strOf_list, strOf_list]
  by_cases h : a = b
  · subst h; simp
  · rw [decide_eq_false h, decide_eq_false (fun e => h (ofBits_inj e))]
/-- The same bytes? -/
theorem psame_yes {w : World} {a a' : Option Addr} {n c c' : Nat} {bs : List (BitVec 8)} (hx : BytesAt w a bs) (hn : bs.length = n) (hy : BytesAt w a' bs) :
    Calls Try.prog 32 #[.slice a n c, .slice a' n c'] w fun e w' => e = .returned (.bool true) ∧ w' = w := by
  have h1 := convert_any (cap := c) hx hn
  have h2 := convert_any (cap := c') hy hn
  clear hx hy hn
  generalize strOf bs = sx at *
  go_enter Try.func32, Try.ntmps32
  go_wp2
  go_ret
  exact ⟨rfl, rfl⟩
/-- 'append' of bytes that may be none to an own row. -/
theorem wpAppendA {ops : Array Oper} {rest : List Oper} {o : Oper} {a : Act} {w : World} {Q : Exit → Act → World → Prop} (s x : Operand) (hgd : o.guard = none) (ho : o.op = .call { callee := .builtin .append, args := #[s, x], argTypes := #[25, 25] })
    {base k : Nat} {v : Value} {old : List (BitVec 8)} (hs : a.eval s = v) (hown : w.ownsRow base 5 1 v k (bcells old)) (hbase : base ≤ w.heap.size)
    {ax : Option Addr} {n c : Nat} {bs : List (BitVec 8)} (hx : a.eval x = .slice ax n c) (hz : ax = none → c = 0) (hn : bs.length = n) (hB : BytesAt w ax bs) (hl : k + n ≤ 140737488355328)
    (h : ∀ w' v', Hid (w'.ownsRow base 5 1 v' (k + n) (bcells (old ++ bs))) → Hid (w.grownBy w' v.ownBlock ∧ (v'.ownBlock = v.ownBlock ∨ v'.ownBlock = some w.heap.size)) → wpList Try.prog ops Q rest (a.put o.dst v') w') : wpList Try.prog ops Q (o :: rest) a w := by
  obtain ⟨i, h1, h2, h3, h4⟩ := info5
  subst hn
  cases ax with
  | none =>
    obtain rfl : bs = [] := by
      cases bs with
      | nil => rfl
      | cons b l => obtain ⟨g, o, e, _⟩ := hB 0 (by simp); cases e
    obtain rfl : c = 0 := hz rfl
    refine wpList_append_own_none hgd s x 25 ho base 5 i 1 Try.underlying25 h1 v k (bcells old) hs hown hx (h w v ?_ ⟨World.grownBy.refl _ _, .inl rfl⟩)
    show World.ownsRow _ _ _ _ _ _ _
    rw [List.append_nil]
    exact hown
  | some ad =>
    refine wpList_append_own_at w hgd s x 25 ho base 5 i (.int .u8 0) 1 1 Try.underlying25 h1 h2 h3 h4 rfl (by decide) v k (bcells old) hs hown ad bs.length c (bcells bs) hx (by rw [bcells_len]; omega) ?_ (bcells_one _) (by unfold maxLen; omega) (by omega) hbase ?_
    · intro j u hv
      have hj : j < bs.length := by
        have := (List.getElem?_eq_some_iff.1 hv).1
        rwa [bcells_len] at this
      obtain ⟨g2, o2, e2, c2⟩ := hB j hj
      cases e2
      rw [bcells_get hj] at hv
      rw [Addr.add_mid, c2]
      exact hv
    · intro v' w' hown' hgrow _ hat
      refine h w' v' ?_ ⟨hgrow, hat⟩
      show World.ownsRow _ _ _ _ _ _ _
      rw [show bcells (old ++ bs) = bcells old ++ bcells bs by simp [bcells]]
      exact hown'
/-- A stream, the row of all that it took (v), and boxes (N), all apart; txt: what its chunks are of. -/
structure KpS (w : World) (p : Nat) (F : Sb) (b : Int) (all txt : List (BitVec 8)) (v : Value) (N : Nat → Prop) (wr : World) : Prop where
  bf : ∃ S, Bf wr p F S ∧ (∀ y, S y → w.heap.size ≤ y) ∧ (∀ y, N y → ¬ S y ∧ y < wr.heap.size) ∧ (∀ y, v.ownBlock = some y → ¬ S y ∧ ¬ N y)
  own : wr.ownsRow w.heap.size 5 1 v all.length (bcells all)
  gs : F.Gs
  bel : Below w.heap.size w wr
  tri : TriOk b txt F.tri
  end_ : F.end_ = b + txt.length
section
variable {w wr w' : World} {p : Nat} {F : Sb} {b : Int} {all txt : List (BitVec 8)} {v : Value} {N : Nat → Prop}
theorem KpS.ok (h : KpS w p F b all txt v N wr) : F.Ok := by
  obtain ⟨S, h1, _⟩ := h.bf
  exact h1.ok
theorem KpS.kept (h : KpS w p F b all txt v N wr) (hb : Below wr.heap.size wr w') : KpS w p F b all txt v N w' := by
  obtain ⟨S, h1, h2, h3, h4⟩ := h.bf
  exact ⟨⟨S, h1.kept hb, h2, fun y hy => ⟨(h3 y hy).1, Nat.lt_of_lt_of_le (h3 y hy).2 hb.size⟩, h4⟩, own_below h.own hb, h.gs, h.bel.trans (hb.mono h.bel.size), h.tri, h.end_⟩
theorem KpS.less (h : KpS w p F b all txt v N wr) {M : Nat → Prop} (hM : ∀ y, M y → N y) : KpS w p F b all txt v M wr := by
  obtain ⟨S, h1, h2, h3, h4⟩ := h.bf
  exact ⟨⟨S, h1, h2, fun y hy => h3 y (hM y hy), fun y hy => ⟨(h4 y hy).1, fun hm => (h4 y hy).2 (hM y hm)⟩⟩, h.own, h.gs, h.bel, h.tri, h.end_⟩
theorem KpS.box (h : KpS w p F b all txt v N wr) (ob : Obj) : KpS w p F b all txt v (fun y => N y ∨ y = wr.heap.size) (wr.alloc ob) := by
  have hb : Below wr.heap.size wr (wr.alloc ob) := (Below.refl _ _).alloc (Nat.le_refl _) _
  obtain ⟨S, h1, h2, h3, h4⟩ := h.bf
  refine ⟨⟨S, h1.kept hb, h2, fun y hy => ?_, fun y hy => ⟨(h4 y hy).1, fun hm => ?_⟩⟩, own_below h.own hb, h.gs, h.bel.trans (hb.mono h.bel.size), h.tri, h.end_⟩
  · rcases hy with hy | rfl
    · exact ⟨(h3 y hy).1, Nat.lt_of_lt_of_le (h3 y hy).2 hb.size⟩
    · exact ⟨fun hs => by have := h1.lt _ hs; omega, by simp⟩
  · rcases hm with hm | rfl
    · exact (h4 y hy).2 hm
    · have := own_lt h.own hy; omega
theorem KpS.turn (h : KpS w p F b all txt v N wr) {S : Nat → Prop} (h2 : ∀ y, S y → w.heap.size ≤ y) (h3 : ∀ y, N y → ¬ S y ∧ y < wr.heap.size) (h4 : ∀ y, v.ownBlock = some y → ¬ S y ∧ ¬ N y) {F' : Sb} {txt' : List (BitVec 8)} (k1 : Bf w' p F' (grew S wr w')) (k2 : Fr S wr w') (hg : F'.Gs) (ht : TriOk b txt' F'.tri) (he : F'.end_ = b + txt'.length) : KpS w p F' b all txt' v N w' ∧ SameN N wr w' := by
  refine ⟨⟨⟨_, k1, fun y hy => ?_, fun y hy => ⟨fun hs => ?_, Nat.lt_of_lt_of_le (h3 y hy).2 k2.size⟩, fun y hy => ⟨fun hs => ?_, (h4 y hy).2⟩⟩, k2.own h.own (fun y hy => (h4 y hy).1), hg, h.bel.trans (k2.below h2 h.bel.size), ht, he⟩, fun y c v hy hc => k2.cell hc (h3 y hy).1⟩
  · rcases hy with hy | hy
    · exact h2 y hy
    · have := h.bel.size; omega
  · rcases hs with hs | hs
    · exact (h3 y hy).1 hs
    · have := (h3 y hy).2; omega
  · rcases hs with hs | hs
    · exact (h4 y hy).1 hs
    · have := own_lt h.own hy; omega
theorem KpS.play (h : KpS w p F b all txt v N wr) (k : Int) (ot : Bool) (pa off : Int) (rel : Bool) (ed n : Int) (da : Value) (hE0 : 0 ≤ ed) (hE1 : ed ≤ 18446744073709551615) :
    Calls Try.prog 21 #[.pointer (some ⟨p, 0, none⟩), .agg #[.int .i64 k, .bool ot, .int .i64 pa, .int .u64 off, .bool rel, .int .u64 ed, .int .i64 n, da]] wr fun e w' => e = .returned (.tuple #[]) ∧ ∃ F', KpS w p F' b all txt v N w' ∧ SameN N wr w' := by
  obtain ⟨S, h1, h2, h3, h4⟩ := h.bf
  refine (play_any h1 h.gs k ot pa off rel ed n da hE0 hE1).mono ?_
  rintro e w' ⟨rfl, F', k1, k2, k3⟩
  exact ⟨rfl, F', h.turn h2 h3 h4 k1 k2 k3.gs (h.tri.pg h.end_ k3) (k3.end_.trans h.end_)⟩
theorem KpS.write (h : KpS w p F b all txt v N wr) {y : Wt} (hy : y.Ok w) {n : Nat} (hn : F.takesG y.bs.length = n) :
    Calls Try.prog 11 #[.pointer (some ⟨p, 0, none⟩), .slice y.a y.bs.length y.cap] wr fun e w' => e = .returned (.int .i64 n) ∧ ∃ F', KpS w p F' b all (txt ++ y.bs.take n) v N w' ∧ SameN N wr w' := by
  obtain ⟨S, h1, h2, h3, h4⟩ := h.bf
  refine (write_K h1 h.gs (hy.by_.kept h.bel) y.bs.length y.cap rfl hy.lc hy.nm hy.z n hn).mono ?_
  rintro e w' ⟨rfl, F', k1, k2, k3⟩
  have hnl : n ≤ y.bs.length := by unfold Sb.takesG Sb.takes at hn; split at hn <;> omega
  exact ⟨rfl, F', h.turn h2 h3 h4 k1 k2 k3.gs (h.tri.wk h.end_ k3) (by rw [k3.end_, h.end_, List.length_append, List.length_take]; omega)⟩
/-- The row has grown. -/
theorem KpS.push (h : KpS w p F b all txt v N wr) {v' : Value} {all' : List (BitVec 8)} (ho : w'.ownsRow w.heap.size 5 1 v' all'.length (bcells all')) (hg : wr.grownBy w' v.ownBlock) (ha : v'.ownBlock = v.ownBlock ∨ v'.ownBlock = some wr.heap.size) : KpS w p F b all' txt v' N w' ∧ SameN N wr w' := by
  have hf : Fr (fun x => v.ownBlock = some x) wr w' := Fr.of_grown hg (fun x hx => .inl hx)
  obtain ⟨S, h1, h2, h3, h4⟩ := h.bf
  refine ⟨⟨⟨S, h1.far hf (fun x hx e => (h4 x e).1 hx), h2, fun y hy => ⟨(h3 y hy).1, Nat.lt_of_lt_of_le (h3 y hy).2 hf.size⟩, fun y hy => ?_⟩, ho, h.gs, h.bel.trans (hf.below (fun x hx => own_ge h.own hx) h.bel.size), h.tri, h.end_⟩, fun y c v hy hc => hf.cell hc (fun e => (h4 y e).2 hy)⟩
  rcases ha with e | e
  · exact h4 y (e ▸ hy)
  · rw [e] at hy
    simp only [Option.some.injEq] at hy
    subst hy
    exact ⟨fun hy => by have := h1.lt _ hy; omega, fun hy => by have := (h3 _ hy).2; omega⟩
theorem KpS.free (h : KpS w p F b all txt v N wr) : Calls Try.prog 30 #[.pointer (some ⟨p, 0, none⟩)] wr fun e w' => e = .returned (.int .i64 F.free) ∧ Below wr.heap.size wr w' := by
  obtain ⟨S, ⟨a, cap, h1⟩, _⟩ := h.bf
  refine (free_any h1.sb.r).mono ?_
  rintro e w' ⟨rfl, q, rfl⟩
  exact ⟨rfl, below_drewN (Below.refl _ _) q⟩
theorem KpS.endc (h : KpS w p F b all txt v N wr) : Calls Try.prog 15 #[.pointer (some ⟨p, 0, none⟩)] wr fun e w' => e = .returned (.int .u64 F.end_) ∧ w' = wr := by
  obtain ⟨S, ⟨a, cap, h1⟩, _⟩ := h.bf
  exact end_any h1.sb.r
theorem KpS.high (h : KpS w p F b all txt v N wr) : Calls Try.prog 16 #[.pointer (some ⟨p, 0, none⟩)] wr fun e w' => e = .returned (.int .u64 F.high) ∧ w' = wr := by
  obtain ⟨S, ⟨a, cap, h1⟩, _⟩ := h.bf
  exact high_any h1.sb.r
theorem KpS.acked (h : KpS w p F b all txt v N wr) : Calls Try.prog 20 #[.pointer (some ⟨p, 0, none⟩)] wr fun e w' => e = .returned (.int .u64 F.acked) ∧ w' = wr := by
  obtain ⟨S, ⟨a, cap, h1⟩, _⟩ := h.bf
  exact acked_any h1.sb.r
theorem KpS.closed (h : KpS w p F b all txt v N wr) : Calls Try.prog 31 #[.pointer (some ⟨p, 0, none⟩)] wr fun e w' => e = .returned (.bool F.closed) ∧ w' = wr := by
  obtain ⟨S, ⟨a, cap, h1⟩, _⟩ := h.bf
  exact closed_any h1.sb.r
theorem KpS.bytes (h : KpS w p F b all txt v N wr) {k : Nat} (hk : k < F.L.length) : Calls Try.prog 27 #[.pointer (some ⟨p, 0, none⟩), .int .u64 F.L[k].off] wr fun e w' => ∃ a' c', e = .returned (.slice a' F.L[k].bs.length c') ∧ BytesAt w' a' F.L[k].bs ∧ Below wr.heap.size wr w' := by
  obtain ⟨S, ⟨a, cap, h1⟩, _⟩ := h.bf
  refine (bytes_all h1.sb.r hk).mono ?_
  rintro e w' ⟨w1, hb1, a', c', rfl, hB, _, _, _, hb2⟩
  exact ⟨a', c', rfl, hB, hb1.trans (hb2.mono hb1.size)⟩
end
end Go.Proofs.Ytnohammflhadpaa
