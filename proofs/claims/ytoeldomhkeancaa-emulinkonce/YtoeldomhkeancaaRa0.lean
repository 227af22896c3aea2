import Derived.Test.YtoeldomhkeancaaQu3
namespace Go.Proofs.Ytoeldomhkeancaa
open Go.RowKit Go.Maps
set_option maxRecDepth 100000

section
variable {α : Type} (f : α → List Value) (n : Nat)
/-- Rows of structs as cells. -/
def flat (L : List α) : List Value := L.flatMap f
variable {f n}
theorem flat_len (hf : ∀ x, (f x).length = n) : ∀ L : List α, (flat f L).length = L.length * n
  | [] => by simp [flat]
  | x :: r => by
    have ih := flat_len hf r
    simp only [flat, List.flatMap_cons, List.length_append, List.length_cons] at *
    rw [ih, hf, Nat.add_mul, Nat.one_mul, Nat.add_comm]
theorem flat_app (a b : List α) : flat f (a ++ b) = flat f a ++ flat f b := by simp [flat]
theorem flat_get (hf : ∀ x, (f x).length = n) : ∀ {L : List α} {k : Nat} {x : α}, L[k]? = some x → ∀ {j : Nat} {v : Value}, (f x)[j]? = some v → (flat f L)[k * n + j]? = some v
  | [], _, _, h, _, _, _ => by simp at h
  | y :: r, 0, x, h, j, v, hv => by
    cases h
    have hj : j < (f y).length := (List.getElem?_eq_some_iff.1 hv).1
    simp only [flat, List.flatMap_cons, Nat.zero_mul, Nat.zero_add]
    rw [List.getElem?_append_left hj]
    exact hv
  | y :: r, k + 1, x, h, j, v, hv => by
    have ih := flat_get hf (L := r) (k := k) (x := x) (by simpa using h) hv
    simp only [flat, List.flatMap_cons] at *
    rw [List.getElem?_append_right (by rw [hf, Nat.add_mul]; omega), hf]
    rw [show (k + 1) * n + j - n = k * n + j by rw [Nat.add_mul]; omega]
    exact ih
/-- An own row of structs is read. -/
theorem own_row_at (hf : ∀ x, (f x).length = n) {w : World} {b : Nat} {t : TypeId} {v : Value} {L : List α} (h : w.ownsRow b t n v L.length (flat f L)) : ∃ a cap, v = .slice a L.length cap ∧ ∀ (k : Nat) x, L[k]? = some x → ∃ g, a = some ⟨g, 0, none⟩ ∧ ∀ (j : Nat) v, (f x)[j]? = some v → w.cell? ⟨g, k * n + j, none⟩ = some v := by
  obtain ⟨hl, ⟨rfl, hn⟩ | ⟨g, cap, cur, rfl, hb, hg, hnc, hcm, hcs, htk⟩⟩ := h
  · refine ⟨none, 0, by rw [hn], fun k x hx => ?_⟩
    have := (List.getElem?_eq_some_iff.1 hx).1
    omega
  · refine ⟨_, cap, rfl, fun k x hx => ⟨g, rfl, fun j v hv => ?_⟩⟩
    have h1 := flat_get hf hx hv
    have hj := (List.getElem?_eq_some_iff.1 hv).1
    have hk := (List.getElem?_eq_some_iff.1 hx).1
    rw [hf] at hj
    have hlt : k * n + j < L.length * n := by
      have h2 : (k + 1) * n ≤ L.length * n := Nat.mul_le_mul_right n (by omega)
      rw [Nat.add_mul] at h2
      omega
    rw [cell_of_row w g _ _ _ _ hg, ← Array.getElem?_toList, ← h1, ← htk, List.getElem?_take, if_pos hlt]
end
/-- A note of a Put. -/
structure Nt where
  at_ : Int
  fa : Option Addr
  fc : Nat
  n : Nat
  ok : Bool
def ncells (x : Nt) : List Value := [.int .u64 x.at_, .slice x.fa x.n x.fc, .bool x.ok]
theorem ncells_len (x : Nt) : (ncells x).length = 3 := rfl
theorem ncells_one (x : Nt) : ∀ u ∈ ncells x, u.oneCell' = true := by
  intro u hu
  simp only [ncells, List.mem_cons, List.not_mem_nil, or_false] at hu
  rcases hu with rfl | rfl | rfl <;> rfl
theorem inf59 : ∃ i : TypeInfo, Try.prog.info? 59 = some i ∧ i.zero = some (.agg #[.int .u64 0, .slice none 0 0, .bool false]) ∧ i.size = 3 ∧ i.bytes = 40 := by
  have h : (Try.prog.info? 59).map (fun i => (i.zero, i.size, i.bytes)) = some (some (.agg #[.int .u64 0, .slice none 0 0, .bool false]), 3, 40) := by kernel_rfl
  cases hq : Try.prog.info? 59 with
  | none => rw [hq] at h; cases h
  | some i => rw [hq] at h; simp at h; exact ⟨i, rfl, h.1, h.2.1, h.2.2⟩
theorem bsl57 (w : World) (t : Int) (a : Option Addr) (n c : Nat) (b : Bool) : (Instr.buildSlice 57 1 #[(0, .agg #[.int .u64 t, .slice a n c, .bool b])]).run Try.prog w = .ok (.slice (some ⟨w.heap.size, 0, none⟩) 1 1) (w.alloc (.cells #[.int .u64 t, .slice a n c, .bool b] 59)) := by kernel_rfl
/-- A note behind an own row of them. -/
theorem wpAppendN {ops : Array Oper} {rest : List Oper} {o : Oper} {a : Act} {w : World} {Q : Exit → Act → World → Prop} (s x : Operand) (hgd : o.guard = none) (ho : o.op = .call { callee := .builtin .append, args := #[s, x], argTypes := #[57, 57] })
    {base : Nat} {v : Value} {L : List Nt} (hs : a.eval s = v) (hown : w.ownsRow base 59 3 v L.length (flat ncells L)) (hbase : base ≤ w.heap.size)
    {bx : Nat} {e : Nt} (hx : a.eval x = .slice (some ⟨bx, 0, none⟩) 1 1) (R : Row w bx (ncells e) 59) (hl : L.length + 1 ≤ 3000000000000)
    (h : ∀ w' v', Hid (w'.ownsRow base 59 3 v' (L ++ [e]).length (flat ncells (L ++ [e]))) → Hid (w.grownBy w' v.ownBlock ∧ (v'.ownBlock = v.ownBlock ∨ v'.ownBlock = some w.heap.size)) → wpList Try.prog ops Q rest (a.put o.dst v') w') : wpList Try.prog ops Q (o :: rest) a w := by
  obtain ⟨i, i1, i2, i3, i4⟩ := inf59
  refine wpList_append_own_at w hgd s x 57 ho base 59 i _ 3 40 Try.underlying57 i1 i2 i3 i4 rfl (by decide) v L.length (flat ncells L) hs hown ⟨bx, 0, none⟩ 1 1 (ncells e) hx rfl ?_ (ncells_one e) (by unfold maxLen; omega) (by omega) hbase ?_
  · intro j u hu
    rw [Addr.add_mid]
    exact R.cell _ _ (by simpa using hu)
  · intro v' w' hown' hgrow _ hat
    refine h w' v' ?_ ⟨hgrow, hat⟩
    show World.ownsRow _ _ _ _ _ _ _
    rw [show (L ++ [e]).length = L.length + 1 by simp, flat_app, show flat ncells [e] = ncells e by simp [flat]]
    exact hown'
/-- What stands of a link without jitter, and of the notes of its Puts. -/
structure RaI (K : Lk) (r d : Int) (ns : List Nt) (t : Int) : Prop where
  jit : K.jit = []
  rate : K.rate = r
  delay : K.delay = d
  now : K.now = t
  len : K.put = (ns.length : Int)
  fl : ∀ x ∈ K.Fl, 0 ≤ x.num ∧ ∃ y, ns[x.num.toNat]? = some y ∧ y.ok = true ∧ y.at_ + takesE r y.n + d ≤ x.at_
  gap : ∀ x ∈ K.Fl, ∀ z ∈ K.Fl, x.num < z.num → ∀ y, ns[z.num.toNat]? = some y → x.at_ + takesE r y.n ≤ z.at_
  top : ∀ x ∈ K.Fl, x.at_ ≤ K.busy + d
  sml : ∀ y ∈ ns, y.ok = true → y.n ≤ 1073741824
  tim : ∀ y ∈ ns, 0 ≤ y.at_ ∧ y.at_ ≤ 1152921504606846976
theorem RaI.fresh {r d q : Int} {loss : List Bool} {lv jv : Value} : RaI (Lk.fresh r d q loss [] lv jv) r d [] 0 :=
  ⟨rfl, rfl, rfl, rfl, rfl, fun _ hx => absurd hx List.not_mem_nil, fun _ hx => absurd hx List.not_mem_nil, fun _ hx => absurd hx List.not_mem_nil, fun _ hx => absurd hx List.not_mem_nil, fun _ hx => absurd hx List.not_mem_nil⟩
theorem RaI.go {K K1 : Lk} {r d t t' : Int} {ns : List Nt} (h : RaI K r d ns t) (hG : GoE K t' K1) : RaI K1 r d ns t' ∧ K1.busy = K.busy ∧ K1.Fl = K.Fl := by
  obtain ⟨a1, a2, a3, a4, a5, a6, a7, a8, a9, a10⟩ := hG.fields
  exact ⟨⟨a5.trans h.jit, a1.trans h.rate, a2.trans h.delay, a8, a6.trans h.len, by rw [a10]; exact h.fl, by rw [a10]; exact h.gap, by rw [a10, a7]; exact h.top, h.sml, h.tim⟩, a7, a10⟩
theorem RaI.put {K K1 K' : Lk} {r d t t' : Int} {ns : List Nt} {bs : List (BitVec 8)} {ok : Bool} (h : RaI K r d ns t) (hk : K.Ok) (hk1 : K1.Ok) (hn : ∀ x ∈ K.Fl, x.num < K.put) (hG : GoE K t' K1) (hc : PutQ K K1 K' bs ok) (fa : Option Addr) (fc : Nat) (h0 : 0 ≤ t') (h1 : t' ≤ 1152921504606846976) :
    RaI K' r d (ns ++ [⟨t', fa, fc, bs.length, ok⟩]) t' ∧ (ok = true → bs.length ≤ 1073741824 ∧ K'.busy = max t' K.busy + takesE r bs.length) := by
  obtain ⟨g, eb, ef⟩ := h.go hG
  have hlen := h.len
  have hge : ∀ {k : Int} {y : Nt}, 0 ≤ k → k < K.put → (ns ++ [⟨t', fa, fc, bs.length, ok⟩])[k.toNat]? = some y → ns[k.toNat]? = some y := fun hk0 hk hy => by
    rwa [List.getElem?_append_left (by omega)] at hy
  have hup : ∀ {k : Nat} {y : Nt}, ns[k]? = some y → (ns ++ [⟨t', fa, fc, bs.length, ok⟩])[k]? = some y := fun hy => by
    rw [List.getElem?_append_left (List.getElem?_eq_some_iff.1 hy).1]
    exact hy
  have hll : K.put + 1 = ((ns ++ [(⟨t', fa, fc, bs.length, ok⟩ : Nt)]).length : Int) := by simp; omega
  have htm : ∀ y ∈ ns ++ [(⟨t', fa, fc, bs.length, ok⟩ : Nt)], 0 ≤ y.at_ ∧ y.at_ ≤ 1152921504606846976 := fun y hy => by
    rcases List.mem_append.1 hy with hy | hy
    · exact h.tim y hy
    · simp at hy
      rw [hy]
      exact ⟨h0, h1⟩
  have hold : ∀ x ∈ K.Fl, 0 ≤ x.num ∧ ∃ y, (ns ++ [(⟨t', fa, fc, bs.length, ok⟩ : Nt)])[x.num.toNat]? = some y ∧ y.ok = true ∧ y.at_ + takesE r y.n + d ≤ x.at_ := fun x hx => by
    obtain ⟨e0, y, e1, e2⟩ := h.fl x hx
    exact ⟨e0, y, hup e1, e2⟩
  have hgap : ∀ x ∈ K.Fl, ∀ z ∈ K.Fl, x.num < z.num → ∀ y, (ns ++ [(⟨t', fa, fc, bs.length, ok⟩ : Nt)])[z.num.toNat]? = some y → x.at_ + takesE r y.n ≤ z.at_ := fun x hx z hz hxz y hy => h.gap x hx z hz hxz y (hge (h.fl z hz).1 (hn z hz) hy)
  rcases hc with ⟨rfl, l1, rfl⟩ | ⟨rfl, l1, r1, rfl⟩ | ⟨rfl, l1, r1, s1⟩
  · refine ⟨⟨g.jit, g.rate, g.delay, g.now, hll, by show ∀ x ∈ K1.Fl, _; rw [ef]; exact hold, by show ∀ x ∈ K1.Fl, ∀ z ∈ K1.Fl, _; rw [ef]; exact hgap, g.top, fun y hy ho => ?_, htm⟩, fun e => by cases e⟩
    rcases List.mem_append.1 hy with hy | hy
    · exact h.sml y hy ho
    · simp at hy; rw [hy] at ho; cases ho
  · refine ⟨⟨g.jit, g.rate, g.delay, g.now, hll, by show ∀ x ∈ K1.Fl, _; rw [ef]; exact hold, by show ∀ x ∈ K1.Fl, ∀ z ∈ K1.Fl, _; rw [ef]; exact hgap, g.top, fun y hy ho => ?_, htm⟩, fun e => by cases e⟩
    rcases List.mem_append.1 hy with hy | hy
    · exact h.sml y hy ho
    · simp at hy; rw [hy] at ho; cases ho
  · obtain ⟨b1, b2, b3, b4, b5, b6, b7, b8, b9⟩ := s1.fields
    obtain ⟨v, hF⟩ := s1.Fl
    have hj : jitE { K1 with put := K.put + 1 } K.put = 0 := by
      unfold jitE
      rw [show ({ K1 with put := K.put + 1 } : Lk).jit = [] from g.jit]
      rfl
    have hov : overE { K1 with put := K.put + 1 } bs.length = max t' K.busy + takesE r bs.length := by
      unfold overE
      rw [show ({ K1 with put := K.put + 1 } : Lk).now = t' from g.now, show ({ K1 with put := K.put + 1 } : Lk).busy = K.busy from eb, show ({ K1 with put := K.put + 1 } : Lk).rate = r from g.rate]
    have hw0 : 0 ≤ K1.wait := by
      have h1 := sumW_len hk1.wt
      have h2 := hk1.wait
      omega
    have hsm : bs.length ≤ 1073741824 := by have := hk.q1; omega
    have hr0 : 0 ≤ r := h.rate ▸ hk.r0
    have hT := takes_le (n := (bs.length : Int)) hr0 (by omega)
    rw [hj, Int.add_zero, hov, show ({ K1 with put := K.put + 1 } : Lk).delay = d from g.delay] at hF
    have hm : ∀ x ∈ K'.Fl, x ∈ K.Fl ∨ x = ⟨max t' K.busy + takesE r bs.length + d, K.put, v⟩ := fun x hx => by
      rcases List.mem_append.1 (hF.mem_iff.1 hx) with h1 | h1
      · exact .inl (ef ▸ h1)
      · exact .inr (by simpa using h1)
    have hnew : (ns ++ [(⟨t', fa, fc, bs.length, true⟩ : Nt)])[K.put.toNat]? = some ⟨t', fa, fc, bs.length, true⟩ := by
      rw [List.getElem?_append_right (by omega), show K.put.toNat - ns.length = 0 by omega]
      rfl
    have hbz : K'.busy = max t' K.busy + takesE r bs.length := b7.trans hov
    refine ⟨⟨b5.trans g.jit, b1.trans g.rate, b2.trans g.delay, b8.trans g.now, b6.trans hll, fun x hx => ?_, fun x hx z hz hxz y hy => ?_, fun x hx => ?_, fun y hy ho => ?_, htm⟩, fun _ => ⟨hsm, hbz⟩⟩
    · rcases hm x hx with h2 | rfl
      · exact hold x h2
      · refine ⟨by show 0 ≤ K.put; omega, _, hnew, rfl, ?_⟩
        show t' + takesE r bs.length + d ≤ max t' K.busy + takesE r bs.length + d
        omega
    · rcases hm z hz with hz2 | rfl
      · rcases hm x hx with hx2 | rfl
        · exact hgap x hx2 z hz2 hxz y hy
        · have h3 := hn z hz2
          have h4 : K.put < z.num := hxz
          omega
      · rcases hm x hx with hx2 | rfl
        · have e1 : (ns ++ [(⟨t', fa, fc, bs.length, true⟩ : Nt)])[K.put.toNat]? = some y := hy
          rw [hnew] at e1
          injection e1 with e1
          have h3 := h.top x hx2
          rw [← e1]
          show x.at_ + takesE r bs.length ≤ max t' K.busy + takesE r bs.length + d
          omega
        · exact absurd hxz (Int.lt_irrefl _)
    · rw [hbz]
      rcases hm x hx with h2 | rfl
      · have h3 := h.top x h2
        omega
      · exact Int.le_refl _
    · rcases List.mem_append.1 hy with hy | hy
      · exact h.sml y hy ho
      · simp at hy; rw [hy]; exact hsm
/-- What is taken at the end: of which note each is, and that it comes no sooner than its share behind the one ahead. -/
theorem RaI.taken {K K1 K' : Lk} {r d t t' : Int} {ns : List Nt} {xs : List (It Value)} (h : RaI K r d ns t) (hnd : K.Fl.Pairwise (fun a b => a.num ≠ b.num)) (hr0 : 0 ≤ r) (hG : GoE K t' K1) (hT : TkI K1 xs K') {k : Nat} {x : It Value} (hx : xs[k]? = some x) :
    0 ≤ x.num ∧ ∃ y, ns[x.num.toNat]? = some y ∧ y.ok = true ∧ y.n ≤ 1073741824 ∧ 0 ≤ y.at_ ∧ y.at_ + takesE r y.n + d ≤ x.at_ ∧ ∀ z, 0 < k → xs[k - 1]? = some z → z.at_ + takesE r y.n ≤ x.at_ := by
  obtain ⟨g, eb, ef⟩ := h.go hG
  have hmem : ∀ z ∈ xs, z ∈ K.Fl := fun z hz => ef ▸ hT.perm.mem_iff.1 (List.mem_append_left _ hz)
  have hxm := hmem x (List.mem_of_getElem? hx)
  obtain ⟨e0, y, e1, e2, e3⟩ := h.fl x hxm
  have hym := List.mem_of_getElem? e1
  refine ⟨e0, y, e1, e2, h.sml y hym e2, (h.tim y hym).1, e3, fun z hk hz => ?_⟩
  have hzm := hmem z (List.mem_of_getElem? hz)
  have hkl := (List.getElem?_eq_some_iff.1 hx).1
  have hzl := (List.getElem?_eq_some_iff.1 hz).1
  have hle := List.pairwise_iff_getElem.1 hT.srt (k - 1) k hzl hkl (by omega)
  have hnx := nd_perm (ef ▸ hnd) hT.perm.symm
  have hne := List.pairwise_iff_getElem.1 (List.pairwise_append.1 hnx).1 (k - 1) k hzl hkl (by omega)
  rw [(List.getElem?_eq_some_iff.1 hx).2, (List.getElem?_eq_some_iff.1 hz).2] at hle hne
  rcases Int.lt_or_gt_of_ne hne with h1 | h1
  · exact h.gap z hzm x hxm h1 y e1
  · obtain ⟨f0, yz, f1, _⟩ := h.fl z hzm
    have h2 := h.gap x hxm z hzm h1 yz f1
    have h3 := takes_le (n := (yz.n : Int)) hr0 (by omega)
    unfold Le Ah It.key at hle
    simp only at hle
    omega
end Go.Proofs.Ytoeldomhkeancaa
