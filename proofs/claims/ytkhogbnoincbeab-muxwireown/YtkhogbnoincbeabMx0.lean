import Derived.Test.YtkhogbnoincbeabBy0
namespace Go.Proofs.Ytkhogbnoincbeab
open Go.RowKit Go.Maps Go.Sort
set_option maxRecDepth 100000

/-- Nothing but what S says is another one. -/
structure Fr (S : Nat → Prop) (w w' : World) : Prop where
  os : w'.os = w.os
  tape : w'.tape = w.tape
  output : w'.output = w.output
  size : w.heap.size ≤ w'.heap.size
  block : ∀ k, k < w.heap.size → ¬ S k → w'.heap[k]? = w.heap[k]?
section
variable {S T : Nat → Prop} {w w' w'' : World}
theorem Fr.refl (S : Nat → Prop) (w : World) : Fr S w w := ⟨rfl, rfl, rfl, Nat.le_refl _, fun _ _ _ => rfl⟩
theorem Fr.of_below {B : Nat} (h : Below B w w') (hB : w.heap.size ≤ B) : Fr S w w' := ⟨h.os, h.tape, h.output, h.size, fun k hk _ => h.block k (by omega)⟩
theorem Fr.trans (h : Fr S w w') (k : Fr T w' w'') (hT : ∀ x, T x → S x ∨ w.heap.size ≤ x) : Fr S w w'' :=
  ⟨k.os.trans h.os, k.tape.trans h.tape, k.output.trans h.output, Nat.le_trans h.size k.size, fun x hx hS => (k.block x (Nat.lt_of_lt_of_le hx h.size) (fun ht => by rcases hT x ht with e | e; exact hS e; omega)).trans (h.block x hx hS)⟩
theorem Fr.wider (h : Fr S w w') (hT : ∀ x, S x → T x) : Fr T w w' := ⟨h.os, h.tape, h.output, h.size, fun k hk hp => h.block k hk (fun hm => hp (hT k hm))⟩
theorem Fr.of_grown {r : Option Nat} (h : w.grownBy w' r) (hr : ∀ k, r = some k → S k ∨ w.heap.size ≤ k) : Fr S w w' :=
  ⟨h.os, h.tape, h.output, h.size, fun k hk hS => h.block k hk (fun e => by rcases hr k e.symm with e | e; exact hS e; omega)⟩
theorem Fr.cell (h : Fr S w w') {a : Addr} {v : Value} (hc : w.cell? a = some v) (hS : ¬ S a.block) : w'.cell? a = some v := by
  have hl := World.block_lt_of_cell? w a hc
  rw [← hc]
  unfold World.cell?
  rw [h.block a.block hl hS]
theorem Fr.row (h : Fr S w w') {g : Nat} {c : List Value} {t : TypeId} (hr : Row w g c t) (hS : ¬ S g) : Row w' g c t := ⟨(h.block g hr.lt hS).trans hr.at_⟩
theorem Fr.below {B : Nat} (h : Fr S w w') (hS : ∀ x, S x → B ≤ x) (hB : B ≤ w.heap.size) : Below B w w' :=
  ⟨h.os, h.tape, h.output, h.size, fun k hk => h.block k (by omega) (fun e => by have := hS k e; omega)⟩
theorem Fr.grown (h : Fr S w w') {g : Nat} (hS : ∀ x, S x → x = g ∨ w.heap.size ≤ x) : w.grownBy w' (some g) :=
  ⟨h.os, h.tape, h.output, h.size, fun k hk e => h.block k hk (fun hs => by rcases hS k hs with e' | e'; exact e (by rw [e']); omega)⟩
theorem Fr.drewN (h : Fr S w w') (q : Nat) : Fr S w (w'.drewN q) := ⟨h.os, h.tape, h.output, h.size, h.block⟩
end
theorem cell_drewN {w : World} {m : Nat} {ad : Addr} {v : Value} (h : w.cell? ad = some v) : (w.drewN m).cell? ad = some v := h
theorem own_ge {w : World} {base : Nat} {e : TypeId} {size : Nat} {v : Value} {n : Nat} {xs : List Value} (h : w.ownsRow base e size v n xs) {g : Nat} (hg : v.ownBlock = some g) : base ≤ g := by
  rcases h.2 with ⟨rfl, _⟩ | ⟨g', cap, cur, rfl, h1, _⟩
  · simp [Value.ownBlock] at hg
  · simp [Value.ownBlock] at hg; omega
theorem own_below {w w' : World} {base : Nat} {e : TypeId} {size : Nat} {v : Value} {n : Nat} {xs : List Value} (h : w.ownsRow base e size v n xs) (hb : Below w.heap.size w w') : w'.ownsRow base e size v n xs := by
  refine ⟨h.1, h.2.imp id ?_⟩
  rintro ⟨g, cap, cur, h1, h2, h3, h4⟩
  exact ⟨g, cap, cur, h1, h2, (hb.block g (Array.getElem?_eq_some_iff.1 h3).1).trans h3, h4⟩
theorem Fr.own {S : Nat → Prop} {w w' : World} (hf : Fr S w w') {base : Nat} {e : TypeId} {size : Nat} {v : Value} {n : Nat} {xs : List Value} (h : w.ownsRow base e size v n xs) (hv : ∀ x, v.ownBlock = some x → ¬ S x) : w'.ownsRow base e size v n xs := by
  refine ⟨h.1, h.2.imp id ?_⟩
  rintro ⟨g, cap, cur, h1, h2, h3, h4⟩
  exact ⟨g, cap, cur, h1, h2, (hf.block g (Array.getElem?_eq_some_iff.1 h3).1 (hv g (by rw [h1]; rfl))).trans h3, h4⟩
theorem own_lt {w : World} {base : Nat} {e : TypeId} {size : Nat} {v : Value} {n : Nat} {xs : List Value} (h : w.ownsRow base e size v n xs) {g : Nat} (hg : v.ownBlock = some g) : g < w.heap.size := by
  rcases h.2 with ⟨rfl, _⟩ | ⟨g', cap, cur, rfl, h1, h2, _⟩
  · simp [Value.ownBlock] at hg
  · simp [Value.ownBlock] at hg
    subst hg
    exact (Array.getElem?_eq_some_iff.1 h2).1
theorem own_less {w : World} {base b2 : Nat} {e : TypeId} {size : Nat} {v : Value} {n : Nat} {xs : List Value} (h : w.ownsRow base e size v n xs) (hb : b2 ≤ base) : w.ownsRow b2 e size v n xs := by
  refine ⟨h.1, h.2.imp id ?_⟩
  rintro ⟨g, cap, cur, h1, h2, h3⟩
  exact ⟨g, cap, cur, h1, Nat.le_trans hb h2, h3⟩
/-- An own row of bytes. -/
abbrev OwnBy (w : World) (base : Nat) (v : Value) (l : List (BitVec 8)) : Prop := w.ownsRow base 5 1 v l.length (bcells l)
theorem ownBy_shape {w : World} {base : Nat} {v : Value} {l : List (BitVec 8)} (h : OwnBy w base v l) : ∃ a cap, v = .slice a l.length cap ∧ BytesAt w a l ∧ l.length ≤ cap ∧ cap ≤ maxLen ∧ (a = none → cap = 0) ∧ (∀ g o, a = some ⟨g, o, none⟩ → base ≤ g ∧ o = 0 ∧ ∃ cur, w.heap[g]? = some (.cells cur 5 (0, 0)) ∧ cur.size = cap) := by
  obtain ⟨hl, ⟨rfl, hn⟩ | ⟨g, cap, cur, rfl, hb, hg, hnc, hcm, hcs, htk⟩⟩ := h
  · exact ⟨none, 0, by rw [hn], fun k hk => by omega, by omega, Nat.zero_le _, fun _ => rfl, fun g o e => (by cases e)⟩
  · refine ⟨some ⟨g, 0, none⟩, cap, rfl, fun k hk => ⟨g, 0, rfl, ?_⟩, hnc, hcm, fun e => (by cases e), fun g' o e => (by cases e; exact ⟨hb, rfl, cur, hg, by simpa using hcs⟩)⟩
    have h1 := bcells_get hk
    rw [Nat.zero_add, cell_of_row w g _ _ _ _ hg, ← h1, ← htk, List.getElem?_take, if_pos (by omega), Array.getElem?_toList]
/-- 'append' of bytes that may be none to an own row. -/
theorem wpAppendA {ops : Array Oper} {rest : List Oper} {o : Oper} {a : Act} {w : World} {Q : Exit → Act → World → Prop} (s x : Operand) (hgd : o.guard = none) (ho : o.op = .call { callee := .builtin .append, args := #[s, x], argTypes := #[27, 27] })
    {base k : Nat} {v : Value} {old : List (BitVec 8)} (hs : a.eval s = v) (hown : w.ownsRow base 5 1 v k (bcells old)) (hbase : base ≤ w.heap.size)
    {ax : Option Addr} {n c : Nat} {bs : List (BitVec 8)} (hx : a.eval x = .slice ax n c) (hz : ax = none → c = 0) (hn : bs.length = n) (hB : BytesAt w ax bs) (hl : k + n ≤ 140737488355328)
    (h : ∀ w' v', Hid (w'.ownsRow base 5 1 v' (k + n) (bcells (old ++ bs))) → Hid (w.grownBy w' v.ownBlock ∧ (v'.ownBlock = v.ownBlock ∨ v'.ownBlock = some w.heap.size)) → wpList Try.prog ops Q rest (a.put o.dst v') w') : wpList Try.prog ops Q (o :: rest) a w := by
  obtain ⟨i, h1, h2, h3, h4⟩ := info5
  subst hn
  cases ax with
  | none =>
    obtain rfl : bs = [] := by
      cases bs with
      | nil => rfl
      | cons b l => obtain ⟨g, o, e, _⟩ := hB 0 (by simp); cases e
    obtain rfl : c = 0 := hz rfl
    refine wpList_append_own_none hgd s x 27 ho base 5 i 1 Try.underlying27 h1 v k (bcells old) hs hown hx (h w v ?_ ⟨World.grownBy.refl _ _, .inl rfl⟩)
    show World.ownsRow _ _ _ _ _ _ _
    rw [List.append_nil]
    exact hown
  | some ad =>
    refine wpList_append_own_at w hgd s x 27 ho base 5 i (.int .u8 0) 1 1 Try.underlying27 h1 h2 h3 h4 rfl (by decide) v k (bcells old) hs hown ad bs.length c (bcells bs) hx (by rw [bcells_len]; omega) ?_ (bcells_one _) (by unfold maxLen; omega) (by omega) hbase ?_
    · intro j u hv
      have hj : j < bs.length := by
        have := (List.getElem?_eq_some_iff.1 hv).1
        rwa [bcells_len] at this
      obtain ⟨g2, o2, e2, c2⟩ := hB j hj
      cases e2
      rw [bcells_get hj] at hv
      rw [Addr.add_mid, c2]
      exact hv
    · intro v' w' hown' hgrow _ hat
      refine h w' v' ?_ ⟨hgrow, hat⟩
      show World.ownsRow _ _ _ _ _ _ _
      rw [show bcells (old ++ bs) = bcells old ++ bcells bs by simp [bcells]]
      exact hown'
theorem strOf_eq (a b : List (BitVec 8)) : ((strOf a).toList == (strOf b).toList) = decide (a = b) := by
  rw [strOf_list, strOf_list]
  by_cases h : a = b
  · subst h; simp
  · rw [decide_eq_false h, beq_eq_false_iff_ne]
    exact fun e => h (ofBits_inj e)
/-- The same bytes? -/
theorem psame_any {w : World} {a a' : Option Addr} {n n' c c' : Nat} {bs bs' : List (BitVec 8)} (hx : BytesAt w a bs) (hn : bs.length = n) (hy : BytesAt w a' bs') (hn' : bs'.length = n') :
    Calls Try.prog 9 #[.slice a n c, .slice a' n' c'] w fun e w' => e = .returned (.bool (decide (bs = bs'))) ∧ w' = w := by
  have h1 := convert_any (cap := c) hx hn
  have h2 := convert_any (cap := c') hy hn'
  have H3 := hid (strOf_eq bs bs')
  clear hx hy hn hn'
  generalize strOf bs = sx at *
  generalize strOf bs' = sy at *
  go_enter Try.func9, Try.ntmps9
  go_wp2
  go_ret
  refine ⟨?_, rfl⟩
  rw [← H3.out]
  rfl
/-- What a copy of bytes is. -/
theorem copy_any {w : World} {a : Option Addr} {n cap : Nat} {bs : List (BitVec 8)} (hB : BytesAt w a bs) (hn : bs.length = n) (hz : a = none → cap = 0) (hl : n ≤ 140737488355328) :
    Calls Try.prog 6 #[.slice a n cap] w fun e w' => ∃ v', e = .returned v' ∧ OwnBy w' w.heap.size v' bs ∧ Below w.heap.size w w' := by
  have HB := hid hB
  have HN := hid hn
  have HL := hid hl
  have HZ := hid hz
  clear hB hn hl hz
  go_enter Try.func6, Try.ntmps6
  go_wp2_with (at_builtin; refine wpAppendA (.tmp 4) (.tmp 5) rfl rfl (base := w.heap.size) (v := .slice none 0 0) (old := []) rfl ⟨rfl, .inl ⟨rfl, rfl⟩⟩ (Nat.le_refl _) rfl HZ.out HN.out HB.out (by have := HL.out; omega) ?_; intro w' v' hO hb)
  go_ret
  have hO2 := hO.out
  rw [List.nil_append, Nat.zero_add, ← HN.out] at hO2
  have hb2 := hb.out.1
  exact ⟨v', rfl, hO2, ⟨hb2.os, hb2.tape, hb2.output, hb2.size, fun k hk => hb2.block k hk (by simp [Value.ownBlock])⟩⟩
end Go.Proofs.Ytkhogbnoincbeab
