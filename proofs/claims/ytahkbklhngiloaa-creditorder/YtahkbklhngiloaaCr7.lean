import Derived.Test.YtahkbklhngiloaaCr6
import Derived.Maps.AppendAt
namespace Go.Proofs.Ytahkbklhngiloaa
open Go.RowKit Go.Maps
set_option maxRecDepth 100000

def ncells (l : List (Int × Int)) : List Value := l.flatMap fun x => [.int .u64 x.1, .int .u64 x.2]
theorem ncells_one (l : List (Int × Int)) : ∀ v ∈ ncells l, v.oneCell' = true := by
  intro v hv
  obtain ⟨x, _, h⟩ := List.mem_flatMap.1 hv
  simp only [List.mem_cons, List.not_mem_nil, or_false] at h
  rcases h with rfl | rfl <;> rfl
theorem info89 : ∃ i : TypeInfo, Try.prog.info? 89 = some i ∧ i.zero = some (.agg #[.int .u64 0, .int .u64 0]) ∧ i.size = 2 ∧ i.bytes = 16 := by
  have h : (Try.prog.info? 89).map (fun i => (i.zero, i.size, i.bytes)) = some (some (.agg #[.int .u64 0, .int .u64 0]), 2, 16) := by kernel_rfl
  cases hq : Try.prog.info? 89 with
  | none => rw [hq] at h; cases h
  | some i => rw [hq] at h; simp at h; exact ⟨i, rfl, h.1, h.2.1, h.2.2⟩
/-- 'append' of a note. -/
theorem wpNote {ops : Array Oper} {rest : List Oper} {o : Oper} {a : Act} {w : World} {Q : Exit → Act → World → Prop} (s x : Operand) (hgd : o.guard = none) (ho : o.op = .call { callee := .builtin .append, args := #[s, x], argTypes := #[49, 49] })
    {base k : Nat} {v : Value} {old : List (Int × Int)} (hs : a.eval s = v) (hown : w.ownsRow base 89 2 v k (ncells old)) (hbase : base ≤ w.heap.size) {g : Nat} {i l : Int} (hx : a.eval x = .slice (some ⟨g, 0, none⟩) 1 1)
    (c0 : w.cell? ⟨g, 0, none⟩ = some (.int .u64 i)) (c1 : w.cell? ⟨g, 1, none⟩ = some (.int .u64 l)) (hl : k ≤ 1000)
    (h : ∀ w' v', Hid (w'.ownsRow base 89 2 v' (k + 1) (ncells (old ++ [(i, l)]))) → Hid (w.grownBy w' v.ownBlock) → wpList Try.prog ops Q rest (a.put o.dst v') w') : wpList Try.prog ops Q (o :: rest) a w := by
  obtain ⟨inf, h1, h2, h3, h4⟩ := info89
  refine wpList_append_own_at w hgd s x 49 ho base 89 inf (.agg #[.int .u64 0, .int .u64 0]) 2 16 Try.underlying49 h1 h2 h3 h4 rfl (by decide) v k (ncells old) hs hown ⟨g, 0, none⟩ 1 1 (ncells [(i, l)]) hx rfl ?_ (ncells_one _) (by unfold maxLen; omega) (by omega) hbase ?_
  · intro j u hv
    match j, hv with
    | 0, hv => simp only [ncells, List.flatMap_cons, List.flatMap_nil, List.append_nil, List.getElem?_cons_zero, Option.some.injEq] at hv; rw [← hv]; exact c0
    | 1, hv => simp only [ncells, List.flatMap_cons, List.flatMap_nil, List.append_nil, List.getElem?_cons_zero, List.getElem?_cons_succ, Option.some.injEq] at hv; rw [← hv]; exact c1
    | j + 2, hv => simp [ncells] at hv
  · intro v' w' hown' hgrow _ _
    refine h w' v' ?_ hgrow
    show World.ownsRow _ _ _ _ _ _ _
    rw [show ncells (old ++ [(i, l)]) = ncells old ++ ncells [(i, l)] by simp [ncells]]
    exact hown'
theorem tells_raw {w : World} {g : Nat} {op deaf : Bool} (c5 : w.cell? ⟨g, 5, none⟩ = some (.bool op)) (c6 : w.cell? ⟨g, 6, none⟩ = some (.bool deaf)) : Calls Try.prog 57 #[pt g 0] w fun e w' => e = .returned (.bool (op && !deaf)) ∧ w' = w := by
  cases op
  all_goals
    go_enter Try.func57, Try.ntmps57
    go_wp2
    go_ret
    exact ⟨by first | rfl | simp, rfl⟩
/-- A stream of which n more bytes are used. -/
def Ss.use (s : Ss) (n : Int) : Ss := { s with a := { s.a with used := s.a.used + n } }
def Ss.tell (s : Ss) (l : Int) : Ss := { s with a := { s.a with told := l } }
/-- The book with n bytes of a stream used, ahead of what is told. -/
def Bk.use0 (B : Bk) (x : Ln) (n : Int) : Bk := { B with all := { B.all with used := B.all.used + n }, U := upd B.U x.num (x.s.use n) }
def Ln.use (x : Ln) (n : Int) : Ln := { x with s := x.s.use n }
def Bk.use1 (B : Bk) (x : Ln) (n : Int) : Bk := (B.use0 x n).forget (x.use n)
def Bk.tl (B : Bk) (x : Ln) (n : Int) : Bool := x.s.op && !x.s.deaf && (x.s.use n).a.due B.own.each
def Bk.use2 (B : Bk) (x : Ln) (n : Int) : Bk := if B.tl x n then { B.use1 x n with U := upd (B.use1 x n).U x.num ((x.s.use n).tell ((x.s.use n).a.limit B.own.each)) } else B.use1 x n
def Bk.al (B : Bk) (n : Int) : Ac := { B.all with used := B.all.used + n }
def Bk.use3 (B : Bk) (x : Ln) (n : Int) : Bk := if (B.al n).due B.own.all then { B.use2 x n with all := { B.al n with told := (B.al n).limit B.own.all } } else B.use2 x n
def Bk.notes (B : Bk) (x : Ln) (n : Int) : List (Int × Int) :=
  (if B.tl x n then [(x.num, (x.s.use n).a.limit B.own.each)] else []) ++ (if (B.al n).due B.own.all then [(0, (B.al n).limit B.own.all)] else [])
theorem mem_use {B : Bk} {x : Ln} (hx : x ∈ B.U) (s : Ss) : ({ x with s := s } : Ln) ∈ upd B.U x.num s := mem_upd.2 ⟨x, hx, by rw [if_pos rfl]⟩
/-- What 'use' needs of the numbers. -/
structure UseOk (B : Bk) (x : Ln) (n : Int) : Prop where
  mem : x ∈ B.U
  side : B.side ≤ 1
  own : B.own.Ok
  all : B.all.Ok
  a : x.s.a.Ok
  lt : x.s.a.told ≤ x.s.a.limit B.own.each
  la : B.all.told ≤ B.all.limit B.own.all
  n0 : 0 ≤ n
  n1 : n ≤ x.s.a.came - x.s.a.used
  n2 : n ≤ B.all.came - B.all.used
  id0 : 0 ≤ x.num
  id1 : x.num ≤ 18446744073709551615
theorem Ac.Ok.use {A : Ac} (k : A.Ok) {n : Int} (h0 : 0 ≤ n) (h1 : n ≤ A.came - A.used) : ({ A with used := A.used + n } : Ac).Ok := by
  obtain ⟨a, b, c, d, e, f, g⟩ := k
  exact ⟨a, b, c, by simp only; omega, by simp only; omega, f, g⟩
theorem Ac.limit_mono {A : Ac} {n r : Int} (h0 : 0 ≤ n) (h : A.told ≤ A.limit r) : A.told ≤ ({ A with used := A.used + n } : Ac).limit r := by
  unfold Ac.limit at *
  simp only
  omega
theorem buildN (w : World) (i l : Int) : (Instr.build 89 #[(0, .int .u64 i), (1, .int .u64 l)]).run Try.prog w = .ok (.agg #[.int .u64 i, .int .u64 l]) w := by kernel_rfl
theorem buildN0 (w : World) (l : Int) : (Instr.build 89 #[(1, .int .u64 l)]).run Try.prog w = .ok (.agg #[.int .u64 0, .int .u64 l]) w := by kernel_rfl
theorem bslN (w : World) (i l : Int) : (Instr.buildSlice 49 1 #[(0, .agg #[.int .u64 i, .int .u64 l])]).run Try.prog w = .ok (.slice (some ⟨w.heap.size, 0, none⟩) 1 1) (w.alloc (.cells #[.int .u64 i, .int .u64 l] 89)) := by kernel_rfl
theorem field240 (w : World) (a b c : Value) : (Instr.field 24 (.agg #[a, b, c]) 0).run Try.prog w = .ok a w := by kernel_rfl
theorem use1_own (B : Bk) (x : Ln) (n : Int) : (B.use1 x n).own = B.own := by
  unfold Bk.use1 Bk.forget Bk.own
  split <;> rfl
theorem use2_own (B : Bk) (x : Ln) (n : Int) : (B.use2 x n).own = B.own := by
  unfold Bk.use2
  split
  · exact use1_own B x n
  · exact use1_own B x n
theorem use2_all (B : Bk) (x : Ln) (n : Int) : (B.use2 x n).all = B.al n := by
  unfold Bk.use2 Bk.use1 Bk.forget
  split <;> split <;> rfl
theorem use2_side (B : Bk) (x : Ln) (n : Int) : (B.use2 x n).side = B.side := by
  unfold Bk.use2 Bk.use1 Bk.forget
  split <;> split <;> rfl
theorem use1_side (B : Bk) (x : Ln) (n : Int) : (B.use1 x n).side = B.side := by
  unfold Bk.use1 Bk.forget
  split <;> rfl
/-- 'own' as a value, and the memory behind it. -/
theorem own_of {w : World} {p b : Nat} {B : Bk} (h : BkAt w p b B) (hs : B.side ≤ 1) {r : Rm} (hr : B.own = r) : Calls Try.prog 34 #[pt p 0] w.drew fun e w' => e = .returned (.agg #[.int .u64 r.all, .int .u64 r.each, .int .i64 r.str]) ∧ Below w.heap.size w w' := by
  subst hr
  exact (own_any (h.drewN 1) hs).mono (fun _ _ hh => ⟨hh.1, (below_drewN (Below.refl _ _) 1).trans hh.2⟩)
theorem foot_use1 {p b : Nat} {B : Bk} {x : Ln} {n : Int} {k : Nat} (h : Foot p b (B.use1 x n) k) : Foot p b B k := by
  unfold Bk.use1 Bk.forget at h
  split at h
  · rcases h with h | h | ⟨y, hy, h⟩
    · exact .inl h
    · exact .inr (.inl h)
    · exact upd_foot (s := x.s.use n) (n := x.num) |>.1 (.inr (.inr ⟨y, (mem_less.1 hy).1, h⟩))
  · exact upd_foot (s := x.s.use n) (n := x.num) |>.1 h
/-- What stands ahead of the account of all together. -/
structure UMid (w w4 : World) (p b : Nat) (B : Bk) (x : Ln) (n : Int) (v : Value) : Prop where
  at_ : BkAt w4 p b (B.use2 x n)
  fr : Fr (fun k => Foot p b B k) w w4
  own : w4.ownsRow w.heap.size 89 2 v (if B.tl x n then [(x.num, (x.s.use n).a.limit B.own.each)] else []).length (ncells (if B.tl x n then [(x.num, (x.s.use n).a.limit B.own.each)] else []))
/-- What the call answers. -/
def UAns (w : World) (p b : Nat) (B : Bk) (x : Ln) (n : Int) (v : Value) (w' : World) : Prop := w'.ownsRow w.heap.size 89 2 v (B.notes x n).length (ncells (B.notes x n)) ∧ BkAt w' p b (B.use3 x n) ∧ Fr (fun k => Foot p b B k) w w'
theorem own_fr {w w' : World} {S : Nat → Prop} {base : Nat} {t : TypeId} {sz : Nat} {v : Value} {n : Nat} {xs : List Value} (h : w.ownsRow base t sz v n xs) (hf : Fr S w w') (hS : ∀ k, S k → k < base ∨ w.heap.size ≤ k) : w'.ownsRow base t sz v n xs := by
  obtain ⟨hl, h0 | ⟨g, cap, cur, e, hb, hg, r⟩⟩ := h
  · exact ⟨hl, .inl h0⟩
  · refine ⟨hl, .inr ⟨g, cap, cur, e, hb, (hf.block g (Array.getElem?_eq_some_iff.1 hg).1 (fun hs => ?_)).trans hg, r⟩⟩
    have := (Array.getElem?_eq_some_iff.1 hg).1
    rcases hS g hs with h | h <;> omega
theorem use3_told {B : Bk} {x : Ln} {n : Int} (hd : (B.al n).due B.own.all = true) : (B.use3 x n).all.told = (B.al n).limit B.own.all := by
  unfold Bk.use3
  rw [hd]
  rfl
theorem own_ge {w : World} {base : Nat} {t : TypeId} {sz : Nat} {v : Value} {n : Nat} {xs : List Value} (h : w.ownsRow base t sz v n xs) {g : Nat} (e : v.ownBlock = some g) : base ≤ g := by
  obtain ⟨hl, ⟨rfl, _⟩ | ⟨g', cap, cur, rfl, hb, _⟩⟩ := h
  · simp [Value.ownBlock] at e
  · simp only [Value.ownBlock, Option.some.injEq] at e
    omega
theorem UMid.keep {w w4 w7 : World} {p b : Nat} {B : Bk} {x : Ln} {n : Int} {v : Value} (h : UMid w w4 p b B x n v) (hb : Below w4.heap.size w4 w7) : UMid w w7 p b B x n v :=
  ⟨h.at_.below hb, h.fr.trans (T := fun _ => False) (Fr.of_below hb (Nat.le_refl _)) (fun _ e => e.elim), own_fr (S := fun _ => False) h.own (Fr.of_below hb (Nat.le_refl _)) (fun _ e => e.elim)⟩
theorem use_end0 {w w7 : World} {p b : Nat} {B : Bk} {x : Ln} {n : Int} {v : Value} (h : UMid w w7 p b B x n v) (hd : (B.al n).due B.own.all = false) : UAns w p b B x n v w7 := by
  refine ⟨?_, ?_, h.fr⟩
  · unfold Bk.notes
    rw [hd]
    simpa using h.own
  · unfold Bk.use3
    rw [hd]
    exact h.at_
/-- The limit of all together is told. -/
theorem UMid.toldAll {w w7 : World} {p b : Nat} {B : Bk} {x : Ln} {n : Int} {v : Value} (h : UMid w w7 p b B x n v) (h0 : BkAt w p b B) (hd : (B.al n).due B.own.all = true) :
    BkAt (w7.setCell ⟨p, 15, none⟩ (.int .u64 ((B.al n).limit B.own.all))) p b (B.use3 x n) ∧ Fr (fun k => Foot p b B k) w (w7.setCell ⟨p, 15, none⟩ (.int .u64 ((B.al n).limit B.own.all))) ∧
      (w7.setCell ⟨p, 15, none⟩ (.int .u64 ((B.al n).limit B.own.all))).ownsRow w.heap.size 89 2 v (if B.tl x n then [(x.num, (x.s.use n).a.limit B.own.each)] else []).length (ncells (if B.tl x n then [(x.num, (x.s.use n).a.limit B.own.each)] else [])) := by
  have hp : p < w.heap.size := h0.lt (.inl rfl)
  refine ⟨?_, h.fr.setCell p 15 _ (.inl (.inl rfl)), own_fr (S := fun k => k = p) h.own ((Fr.refl _ _).setCell p 15 _ (.inl rfl)) (fun k e => .inl (by omega))⟩
  refine h.at_.field 15 _ ?_ ?_
  · unfold Bk.use3
    rw [hd]
    unfold Bk.cells
    rw [use2_all]
    rfl
  · unfold Bk.use3
    rw [hd]
    rfl
theorem use_end1 {w w8 w9 : World} {p b : Nat} {B : Bk} {x : Ln} {n : Int} {v v' : Value} (h8 : BkAt w8 p b (B.use3 x n)) (hf : Fr (fun k => Foot p b B k) w w8) (hd : (B.al n).due B.own.all = true) (hlt : ∀ k, Foot p b (B.use3 x n) k → k < w.heap.size)
    (hv : ∀ g, v.ownBlock = some g → w.heap.size ≤ g) (hg : (w8.alloc (.cells #[.int .u64 0, .int .u64 ((B.al n).limit B.own.all)] 89)).grownBy w9 v.ownBlock)
    (ho : w9.ownsRow w.heap.size 89 2 v' ((if B.tl x n then [(x.num, (x.s.use n).a.limit B.own.each)] else []).length + 1) (ncells ((if B.tl x n then [(x.num, (x.s.use n).a.limit B.own.each)] else []) ++ [(0, (B.al n).limit B.own.all)]))) : UAns w p b B x n v' w9 := by
  have hF : Fr (fun k => w.heap.size ≤ k) w8 w9 := (Fr.of_below (below_box w8 _) (Nat.le_refl _)).trans (T := fun k => w.heap.size ≤ k) (Fr.of_grown hg (fun k e => .inl (hv k e))) (fun _ e => .inl e)
  refine ⟨?_, h8.kept hF (fun k hk e => by have := hlt k hk; omega), hf.trans hF (fun k e => .inr e)⟩
  unfold Bk.notes
  rw [hd]
  simpa using ho
theorem foot_use3 {p b : Nat} {B : Bk} {x : Ln} {n : Int} {k : Nat} (h : Foot p b (B.use3 x n) k) : Foot p b B k := by
  have h2 : Foot p b (B.use2 x n) k := by
    unfold Bk.use3 at h
    split at h
    · exact h
    · exact h
  unfold Bk.use2 at h2
  split at h2
  · exact foot_use1 (upd_foot.1 h2)
  · exact foot_use1 h2
set_option maxHeartbeats 4000000 in
theorem use_any {w : World} {p b : Nat} {B : Bk} (h : BkAt w p b B) {x : Ln} {n : Int} (K : UseOk B x n) :
    Calls Try.prog 41 #[pt p 0, .int .u64 x.num, pt x.g 0, .int .u64 n] w fun e w' => ∃ v, e = .returned v ∧ UAns w p b B x n v w' := by
  have hU := ause_any (h.strm K.mem) K.a K.n0 K.n1
  have H1 := h.turn K.mem 3 (.int .u64 (x.s.a.used + n)) (s := x.s.use n) rfl
  have hU2 := ause_any H1.acc K.all K.n0 K.n2
  have H2 := H1.field 14 (.int .u64 (B.all.used + n)) (B' := B.use0 x n) rfl rfl
  have hm2 : x.use n ∈ (B.use0 x n).U := mem_use K.mem _
  have hFg := forget_any H2 hm2 (K.a.use K.n0 K.n1) K.id0 K.id1
  have F2 := (((Fr.refl (fun k => Foot p b B k) w).setCell x.g 3 (.int .u64 (x.s.a.used + n)) (.inl (.inr (.inr ⟨x, K.mem, rfl⟩)))).setCell p 14 (.int .u64 (B.all.used + n)) (.inl (.inl rfl)))
  have R2 := H2.rows _ hm2
  have hgb : x.g ≠ b := h.gb K.mem
  have HH := hid2 h
  have HK := hid2 K
  have HH2 := hid2 H2
  have HF2 := hid2 F2
  have HR2 := hid2 R2
  clear H1 H2 F2 R2 h K
  have hbn := buildN
  have hbn0 := buildN0
  have hbs := bslN
  have hf1 := field24
  have hf0 := field240
  go_enter Try.func41, Try.ntmps41
  go_upto_region 5 with (first | (go_at_call 56; refine hU1.mono ?_; rintro e w' ⟨rfl, rfl⟩) | (go_at_call 56; refine hU.mono ?_; rintro e w' ⟨rfl, rfl⟩; have hU1 := hU2; clear hU hU2) | (go_at_call 36; refine hFg.mono ?_; rintro e w3 ⟨rfl, h3, hf3⟩; have HH3 := hid2 h3; have HF3 := hid2 hf3; clear h3 hf3 hFg))
  have HF := hid2 (HF2.out.trans HF3.out (fun k e => .inl (by rw [e]; exact .inr (.inl rfl))))
  have HF0 : Hid (BkAt w3 p b (B.use1 x n)) := HH3
  have R3 : Row w3 x.g (x.s.use n).cells 84 := HF3.out.row HR2.out hgb
  clear HH3 HF3 HR2 HF2 HH2 hU1
  by_cases ht : ((x.s.use n).op && !(x.s.use n).deaf) = true
  · have hop : x.s.op = true := by
      have := ht
      rw [Bool.and_eq_true] at this
      exact this.1
    have hng : (x.use n).s.gone = false := by
      show (!x.s.op && _) = false
      rw [hop]
      rfl
    have hmem : x.use n ∈ (B.use1 x n).U := by
      unfold Bk.use1 Bk.forget
      rw [hng]
      exact hm2
    have hT := tells_raw (w := w3.drew) (R3.cell 5 _ rfl) (R3.cell 6 _ rfl)
    rw [ht] at hT
    have hO5 := own_of HF0.out (by rw [use1_side]; exact HK.out.side) (use1_own B x n)
    have HT5 : Hid (∀ W, Below w3.heap.size w3 W → Calls Try.prog 58 #[pt x.g 0, .int .u64 B.own.each] W fun e w' => e = .returned (.bool ((x.s.use n).a.due B.own.each)) ∧ w' = if (x.s.use n).a.due B.own.each then W.setCell ⟨x.g, 4, none⟩ (.int .u64 ((x.s.use n).a.limit B.own.each)) else W) := fun W hW =>
      tell_any ((HF0.out.below hW).strm hmem) (HK.out.a.use HK.out.n0 HK.out.n1) HK.out.own.e0 HK.out.own.e1 (Ac.limit_mono HK.out.n0 HK.out.lt)
    have HOPT := hid2 (show (x.s.op && !x.s.deaf) = true from ht)
    have HME := hid2 hmem
    clear ht hop hng hmem R3 hm2
    cases hd5 : (x.s.use n).a.due B.own.each
    · simp only [hd5] at HT5
      have HD5 : Hid (B.tl x n = false) := by show _ = _; unfold Bk.tl; rw [HOPT.out, hd5]; rfl
      clear hd5
      go_region_with (first | (go_at_call 57; refine hT.mono ?_; rintro e wt ⟨rfl, rfl⟩) | (go_at_call 34; refine hO5.mono ?_; rintro e w5 ⟨rfl, hb5⟩; have hT6 := HT5.out w5 hb5; have HB5 := hid2 hb5; clear hb5 HT5 hO5) | (go_at_call 58; refine hT6.mono ?_; rintro e w6 ⟨rfl, rfl⟩; clear hT6))
      go_upto_region 7 with fail
      refine wp_world ?_
      intro w4 hw4
      have HM : Hid (UMid w w4 p b B x n (.slice none 0 0)) := by
        have hb4 : Below w3.heap.size w3 w4 := by rw [hw4.out]; exact HB5.out
        refine ⟨?_, HF.out.trans (T := fun _ => False) (Fr.of_below hb4 (Nat.le_refl _)) (fun _ e => e.elim), ?_⟩
        · unfold Bk.use2
          rw [HD5.out]
          exact HF0.out.below hb4
        · rw [HD5.out]
          exact ⟨rfl, .inl ⟨rfl, rfl⟩⟩
      clear HF HF0 HB5 hw4 hgb HOPT HD5 HME
      have hO7 := own_of HM.out.at_ (by rw [use2_side]; exact HK.out.side) (use2_own B x n)
      have hkA : (B.al n).Ok := HK.out.all.use HK.out.n0 HK.out.n2
      have hlA : (B.al n).told ≤ (B.al n).limit B.own.all := Ac.limit_mono HK.out.n0 HK.out.la
      have hT7 : Hid (∀ W, Below w4.heap.size w4 W → Calls Try.prog 58 #[pt p 11, .int .u64 B.own.all] W fun e w' => e = .returned (.bool ((B.al n).due B.own.all)) ∧ w' = if (B.al n).due B.own.all then W.setCell ⟨p, 15, none⟩ (.int .u64 ((B.al n).limit B.own.all)) else W) := fun W hW => by
        have hac := (HM.out.at_.below hW).acc
        rw [use2_all] at hac
        exact tell_any hac hkA HK.out.own.a0 HK.out.own.a1 hlA
      clear hkA hlA
      cases hd7 : (B.al n).due B.own.all
      · simp only [hd7] at hT7
        have HD7 := hid2 hd7
        clear hd7
        go_region_with (first | (go_at_call 34; refine hO7.mono ?_; rintro e w7 ⟨rfl, hb7⟩; have hT8 := hT7.out w7 hb7; have HB7 := hid2 hb7; clear hb7 hT7 hO7) | (go_at_call 58; refine hT8.mono ?_; rintro e w8 ⟨rfl, rfl⟩; clear hT8))
        go_wp2
        go_ret
        exact ⟨_, rfl, use_end0 (HM.out.keep (below_drewN HB7.out 0)) HD7.out⟩
      · simp only [hd7] at hT7
        have HD7 := hid2 hd7
        clear hd7
        go_region_with (first | (go_at_call 34; refine hO7.mono ?_; rintro e w7 ⟨rfl, hb7⟩; have hT8 := hT7.out w7 hb7; have HB7 := hid2 hb7; clear hb7 hT7 hO7) | (go_at_call 58; refine hT8.mono ?_; rintro e w8 ⟨rfl, rfl⟩; clear hT8))
        obtain ⟨h8, f8, o8⟩ := (HM.out.keep HB7.out).toldAll HH.out HD7.out
        have HH8 := hid2 h8
        have HF8 := hid2 f8
        have HO8 := hid2 o8
        clear h8 f8 o8
        go_upto_region 8 with fail
        refine wp_world ?_
        intro w8 hw8
        rw [← hw8.out] at HH8 HF8 HO8
        have c15 := HH8.out.row.cell 15 _ rfl
        rw [use3_told HD7.out] at c15
        have hsz := hid2 HF8.out.size
        have HOB : Hid (∀ g, (.slice none 0 0 : Value).ownBlock = some g → w.heap.size ≤ g) := fun g e => own_ge HO8.out e
        have HLK : Hid ((if B.tl x n then [(x.num, (x.s.use n).a.limit B.own.each)] else [] : List (Int × Int)).length ≤ 1000) := by show _ ≤ _; split <;> simp
        have HOX := hid2 (own_fr (S := fun _ => False) HO8.out (Fr.of_below (below_box w8 (.cells #[.int .u64 0, .int .u64 ((B.al n).limit B.own.all)] 89)) (Nat.le_refl _)) (fun _ e => e.elim))
        go_wp2_with (at_builtin; refine wpNote (.tmp 52) (.tmp 59) rfl rfl rfl HOX.out (by have := hsz.out; simp; omega) rfl (box_cells w8 _ 89 0 _ rfl) (box_cells w8 _ 89 1 _ rfl) HLK.out ?_; intro w9 v9 ho9 hg9)
        go_ret
        exact ⟨_, rfl, use_end1 HH8.out HF8.out HD7.out (fun k hk => HH.out.lt (foot_use3 hk)) HOB.out hg9.out ho9.out⟩
    · simp only [hd5] at HT5
      have HD5 : Hid (B.tl x n = true) := by show _ = _; unfold Bk.tl; rw [HOPT.out, hd5]; rfl
      clear hd5
      go_region_with (first | (go_at_call 57; refine hT.mono ?_; rintro e wt ⟨rfl, rfl⟩) | (go_at_call 34; refine hO5.mono ?_; rintro e w5 ⟨rfl, hb5⟩; have hT6 := HT5.out w5 hb5; have HB5 := hid2 hb5; clear hb5 HT5 hO5) | (go_at_call 58; refine hT6.mono ?_; rintro e w6 ⟨rfl, rfl⟩; clear hT6))
      go_upto_region 6 with fail
      refine wp_world ?_
      intro w6 hw6
      have H6 : BkAt w6 p b (B.use2 x n) := by
        have h1 := (HF0.out.below HB5.out).turn HME.out 4 (.int .u64 ((x.s.use n).a.limit B.own.each)) (s := (x.s.use n).tell ((x.s.use n).a.limit B.own.each)) rfl
        rw [hw6.out]
        unfold Bk.use2
        rw [HD5.out]
        exact h1
      have F6 : Fr (fun k => Foot p b B k) w w6 := by
        rw [hw6.out]
        exact (HF.out.trans (T := fun _ => False) (Fr.of_below HB5.out (Nat.le_refl _)) (fun _ e => e.elim)).setCell x.g 4 _ (.inl (.inr (.inr ⟨x, HK.out.mem, rfl⟩)))
      have c4 : w6.cell? ⟨x.g, 4, none⟩ = some (.int .u64 ((x.s.use n).a.limit B.own.each)) := by
        rw [hw6.out]
        exact (((HF0.out.below HB5.out).rows _ HME.out).set 4 _).cell 4 _ rfl
      have HH6 := hid2 H6
      have HF6 := hid2 F6
      have hsz6 := hid2 F6.size
      clear H6 F6 hw6 HF HF0 HB5 hgb HOPT HME hT
      go_upto_region 7 with (at_builtin; refine wpNote (base := w.heap.size) (v := .slice none 0 0) (old := []) (.tmp 35) (.tmp 43) rfl rfl rfl ⟨rfl, .inl ⟨rfl, rfl⟩⟩ (by have := hsz6.out; simp; omega) rfl (box_cells w6 _ 89 0 _ rfl) (box_cells w6 _ 89 1 _ rfl) (by omega) ?_; intro w9 v9 ho9 hg9)
      have HM : Hid (UMid w w9 p b B x n v9) := by
        have hFF : Fr (fun _ => False) w6 w9 := (Fr.of_below (below_box w6 _) (Nat.le_refl _)).trans (T := fun _ => False) (Fr.of_grown hg9.out (fun k e => by simp [Value.ownBlock] at e)) (fun _ e => e.elim)
        refine ⟨HH6.out.kept hFF (fun _ _ e => e), HF6.out.trans hFF (fun _ e => e.elim), ?_⟩
        rw [HD5.out]
        exact ho9.out
      clear HH6 HF6 hsz6 HD5 ho9 hg9 c4
      have hO7 := own_of HM.out.at_ (by rw [use2_side]; exact HK.out.side) (use2_own B x n)
      have hkA : (B.al n).Ok := HK.out.all.use HK.out.n0 HK.out.n2
      have hlA : (B.al n).told ≤ (B.al n).limit B.own.all := Ac.limit_mono HK.out.n0 HK.out.la
      have hT7 : Hid (∀ W, Below w9.heap.size w9 W → Calls Try.prog 58 #[pt p 11, .int .u64 B.own.all] W fun e w' => e = .returned (.bool ((B.al n).due B.own.all)) ∧ w' = if (B.al n).due B.own.all then W.setCell ⟨p, 15, none⟩ (.int .u64 ((B.al n).limit B.own.all)) else W) := fun W hW => by
        have hac := (HM.out.at_.below hW).acc
        rw [use2_all] at hac
        exact tell_any hac hkA HK.out.own.a0 HK.out.own.a1 hlA
      clear hkA hlA
      cases hd7 : (B.al n).due B.own.all
      · simp only [hd7] at hT7
        have HD7 := hid2 hd7
        clear hd7
        go_region_with (first | (go_at_call 34; refine hO7.mono ?_; rintro e w7 ⟨rfl, hb7⟩; have hT8 := hT7.out w7 hb7; have HB7 := hid2 hb7; clear hb7 hT7 hO7) | (go_at_call 58; refine hT8.mono ?_; rintro e w8 ⟨rfl, rfl⟩; clear hT8))
        go_wp2
        go_ret
        exact ⟨_, rfl, use_end0 (HM.out.keep (below_drewN HB7.out 0)) HD7.out⟩
      · simp only [hd7] at hT7
        have HD7 := hid2 hd7
        clear hd7
        go_region_with (first | (go_at_call 34; refine hO7.mono ?_; rintro e w7 ⟨rfl, hb7⟩; have hT8 := hT7.out w7 hb7; have HB7 := hid2 hb7; clear hb7 hT7 hO7) | (go_at_call 58; refine hT8.mono ?_; rintro e w8 ⟨rfl, rfl⟩; clear hT8))
        obtain ⟨h8, f8, o8⟩ := (HM.out.keep HB7.out).toldAll HH.out HD7.out
        have HH8 := hid2 h8
        have HF8 := hid2 f8
        have HO8 := hid2 o8
        clear h8 f8 o8
        go_upto_region 8 with fail
        refine wp_world ?_
        intro w8 hw8
        rw [← hw8.out] at HH8 HF8 HO8
        have c15 := HH8.out.row.cell 15 _ rfl
        rw [use3_told HD7.out] at c15
        have hsz := hid2 HF8.out.size
        have HOB : Hid (∀ g, (v9 : Value).ownBlock = some g → w.heap.size ≤ g) := fun g e => own_ge HO8.out e
        have HLK : Hid ((if B.tl x n then [(x.num, (x.s.use n).a.limit B.own.each)] else [] : List (Int × Int)).length ≤ 1000) := by show _ ≤ _; split <;> simp
        have HOX := hid2 (own_fr (S := fun _ => False) HO8.out (Fr.of_below (below_box w8 (.cells #[.int .u64 0, .int .u64 ((B.al n).limit B.own.all)] 89)) (Nat.le_refl _)) (fun _ e => e.elim))
        go_wp2_with (at_builtin; refine wpNote (.tmp 52) (.tmp 59) rfl rfl rfl HOX.out (by have := hsz.out; simp; omega) rfl (box_cells w8 _ 89 0 _ rfl) (box_cells w8 _ 89 1 _ rfl) HLK.out ?_; intro w9 v9 ho9 hg9)
        go_ret
        exact ⟨_, rfl, use_end1 HH8.out HF8.out HD7.out (fun k hk => HH.out.lt (foot_use3 hk)) HOB.out hg9.out ho9.out⟩
  · have HT : Hid ((x.s.op && !x.s.deaf) = false) := Bool.eq_false_iff.2 ht
    have HTK : Hid (∀ d os, Calls Try.prog 57 #[pt x.g 0] (Go.Sort.grow (redrawn w3 d) os) fun e w'' => e = .returned (.bool ((x.s.use n).op && !(x.s.use n).deaf)) ∧ ∃ q : Regrown, w'' = Go.Sort.grow (redrawn w3 q.d) q.os) := fun d os => by
      have hb := below_regrown w3 d os
      exact Calls.regrown_of ((tells_raw (cell_kept hb (R3.cell 5 _ rfl)) (cell_kept hb (R3.cell 6 _ rfl))).mono (fun _ _ hh => ⟨hh.1, by rw [hh.2]; exact Below.refl _ _⟩))
    have HN : Hid (¬ ((x.s.use n).op && !(x.s.use n).deaf) = true) := ht
    clear ht R3
    generalize ((x.s.use n).op && !(x.s.use n).deaf) = T at *
    refine wp_region_quiet_below (by kernel_rfl) (by decide +kernel) ?_
    iterate 3 (quiet_step (first | (go_at_call 57; exact HTK.out _ _)))
    iterate 7 (refine wpQuiet_step (fun K hK => ?_); go_simp; rw [if_neg HN.out]; refine hK _ ?_; clear hK K)
    refine wpQuiet_step (fun K hK => ?_)
    go_simp
    rw [if_neg HN.out]
    refine hK _ ?_
    clear hK K
    refine wpQuiet_nil ?_
    intro _ hw'
    obtain ⟨⟨dq, osq⟩, hw''⟩ := hw'
    subst hw''
    go_upto_region 7 with fail
    refine wp_world ?_
    intro w4 hw4
    have HM : Hid (UMid w w4 p b B x n (.slice none 0 0)) := by
      have htl : B.tl x n = false := by unfold Bk.tl; rw [HT.out]; rfl
      have hb4 : Below w3.heap.size w3 w4 := by rw [hw4.out]; exact below_regrown w3 dq osq
      refine ⟨?_, HF.out.trans (T := fun _ => False) (Fr.of_below hb4 (Nat.le_refl _)) (fun _ e => e.elim), ?_⟩
      · unfold Bk.use2
        rw [htl]
        exact HF0.out.below hb4
      · rw [htl]
        exact ⟨rfl, .inl ⟨rfl, rfl⟩⟩
    clear HF HF0 HTK HT HN hw4 hm2 hgb
    have hO7 := own_of HM.out.at_ (by rw [use2_side]; exact HK.out.side) (use2_own B x n)
    have hkA : (B.al n).Ok := HK.out.all.use HK.out.n0 HK.out.n2
    have hlA : (B.al n).told ≤ (B.al n).limit B.own.all := Ac.limit_mono HK.out.n0 HK.out.la
    have hT7 : Hid (∀ W, Below w4.heap.size w4 W → Calls Try.prog 58 #[pt p 11, .int .u64 B.own.all] W fun e w' => e = .returned (.bool ((B.al n).due B.own.all)) ∧ w' = if (B.al n).due B.own.all then W.setCell ⟨p, 15, none⟩ (.int .u64 ((B.al n).limit B.own.all)) else W) := fun W hW => by
      have hac := (HM.out.at_.below hW).acc
      rw [use2_all] at hac
      exact tell_any hac hkA HK.out.own.a0 HK.out.own.a1 hlA
    clear hkA hlA
    cases hd7 : (B.al n).due B.own.all
    · simp only [hd7] at hT7
      have HD7 := hid2 hd7
      clear hd7
      go_region_with (first | (go_at_call 34; refine hO7.mono ?_; rintro e w7 ⟨rfl, hb7⟩; have hT8 := hT7.out w7 hb7; have HB7 := hid2 hb7; clear hb7 hT7 hO7) | (go_at_call 58; refine hT8.mono ?_; rintro e w8 ⟨rfl, rfl⟩; clear hT8))
      go_wp2
      go_ret
      exact ⟨_, rfl, use_end0 (HM.out.keep (below_drewN HB7.out 0)) HD7.out⟩
    · simp only [hd7] at hT7
      have HD7 := hid2 hd7
      clear hd7
      go_region_with (first | (go_at_call 34; refine hO7.mono ?_; rintro e w7 ⟨rfl, hb7⟩; have hT8 := hT7.out w7 hb7; have HB7 := hid2 hb7; clear hb7 hT7 hO7) | (go_at_call 58; refine hT8.mono ?_; rintro e w8 ⟨rfl, rfl⟩; clear hT8))
      obtain ⟨h8, f8, o8⟩ := (HM.out.keep HB7.out).toldAll HH.out HD7.out
      have HH8 := hid2 h8
      have HF8 := hid2 f8
      have HO8 := hid2 o8
      clear h8 f8 o8
      go_upto_region 8 with fail
      refine wp_world ?_
      intro w8 hw8
      rw [← hw8.out] at HH8 HF8 HO8
      have c15 := HH8.out.row.cell 15 _ rfl
      rw [use3_told HD7.out] at c15
      have hsz := hid2 HF8.out.size
      have HOB : Hid (∀ g, (.slice none 0 0 : Value).ownBlock = some g → w.heap.size ≤ g) := fun g e => own_ge HO8.out e
      have HLK : Hid ((if B.tl x n then [(x.num, (x.s.use n).a.limit B.own.each)] else [] : List (Int × Int)).length ≤ 1000) := by show _ ≤ _; split <;> simp
      have HOX := hid2 (own_fr (S := fun _ => False) HO8.out (Fr.of_below (below_box w8 (.cells #[.int .u64 0, .int .u64 ((B.al n).limit B.own.all)] 89)) (Nat.le_refl _)) (fun _ e => e.elim))
      go_wp2_with (at_builtin; refine wpNote (.tmp 52) (.tmp 59) rfl rfl rfl HOX.out (by have := hsz.out; simp; omega) rfl (box_cells w8 _ 89 0 _ rfl) (box_cells w8 _ 89 1 _ rfl) HLK.out ?_; intro w9 v9 ho9 hg9)
      go_ret
      exact ⟨_, rfl, use_end1 HH8.out HF8.out HD7.out (fun k hk => HH.out.lt (foot_use3 hk)) HOB.out hg9.out ho9.out⟩
end Go.Proofs.Ytahkbklhngiloaa
