import Derived.Test.YtahkbklhngiloaaCr1
namespace Go.Proofs.Ytahkbklhngiloaa
open Go.RowKit Go.Maps
set_option maxRecDepth 100000

/-- Rooms. -/
structure Rm where
  all : Int
  each : Int
  str : Int
def Rm.val (r : Rm) : Value := .agg #[.int .u64 r.all, .int .u64 r.each, .int .i64 r.str]
structure Rm.Ok (r : Rm) : Prop where
  a0 : 1 ≤ r.all
  a1 : r.all ≤ 1099511627776
  e0 : 1 ≤ r.each
  e1 : r.each ≤ 1099511627776
  s0 : 1 ≤ r.str
  s1 : r.str ≤ 1024
/-- A book: its side, what each side grants, its next numbers, how many are open, the account of all, the streams. -/
structure Bk where
  side : Nat
  r0 : Rm
  r1 : Rm
  n0 : Int
  n1 : Int
  o0 : Int
  o1 : Int
  all : Ac
  U : List Ln
def Bk.cells (B : Bk) (b : Nat) : List Value := [.int .i64 B.side, .int .u64 B.r0.all, .int .u64 B.r0.each, .int .i64 B.r0.str, .int .u64 B.r1.all, .int .u64 B.r1.each, .int .i64 B.r1.str, .int .u64 B.n0, .int .u64 B.n1, .int .i64 B.o0, .int .i64 B.o1,
  .int .u64 B.all.sent, .int .u64 B.all.may, .int .u64 B.all.came, .int .u64 B.all.used, .int .u64 B.all.told, .map (some b)]
def Bk.own (B : Bk) : Rm := if B.side = 0 then B.r0 else B.r1
def Bk.peer (B : Bk) : Rm := if B.side = 0 then B.r1 else B.r0
/-- The book's memory. -/
structure BkAt (w : World) (p b : Nat) (B : Bk) : Prop where
  row : Row w p (B.cells b) 46
  map : OwnU w b B.U
  rows : ∀ x ∈ B.U, Row w x.g x.s.cells 84
  inj : B.U.Pairwise (fun x y => x.g ≠ y.g)
  rise : Rising B.U
def Foot (p b : Nat) (B : Bk) (k : Nat) : Prop := k = p ∨ k = b ∨ ∃ x ∈ B.U, x.g = k
section
variable {w w' : World} {p b : Nat} {B : Bk}
theorem BkAt.lt (h : BkAt w p b B) {k : Nat} (hk : Foot p b B k) : k < w.heap.size := by
  rcases hk with rfl | rfl | ⟨x, hx, rfl⟩
  · exact h.row.lt
  · exact World.ownsMap.lt h.map
  · exact (h.rows x hx).lt
theorem BkAt.kept {S : Nat → Prop} (h : BkAt w p b B) (hf : Fr S w w') (hS : ∀ k, Foot p b B k → ¬ S k) : BkAt w' p b B :=
  ⟨hf.row h.row (hS p (.inl rfl)), OwnU.block h.map (hf.block b (World.ownsMap.lt h.map) (hS b (.inr (.inl rfl)))), fun x hx => hf.row (h.rows x hx) (hS _ (.inr (.inr ⟨x, hx, rfl⟩))), h.inj, h.rise⟩
theorem BkAt.below (h : BkAt w p b B) (hb : Below w.heap.size w w') : BkAt w' p b B :=
  h.kept (S := fun _ => False) (Fr.of_below hb (Nat.le_refl _)) (fun _ _ e => e)
theorem BkAt.drewN (h : BkAt w p b B) (q : Nat) : BkAt (w.drewN q) p b B := h.below (below_drewN (Below.refl _ _) q)
theorem BkAt.pb (h : BkAt w p b B) : p ≠ b := fun e => by
  obtain ⟨es, clock, hb, _⟩ := h.map
  rw [← e, h.row.at_] at hb
  cases hb
theorem BkAt.gb (h : BkAt w p b B) {x : Ln} (hx : x ∈ B.U) : x.g ≠ b := fun e => by
  obtain ⟨es, clock, hb, _⟩ := h.map
  rw [← e, (h.rows x hx).at_] at hb
  cases hb
theorem BkAt.gp (h : BkAt w p b B) {x : Ln} (hx : x ∈ B.U) : x.g ≠ p := fun e => by
  have h1 := (h.rows x hx).at_
  rw [e, h.row.at_] at h1
  injection h1 with h1
  injection h1 with _ h1
  revert h1
  decide
theorem BkAt.ginj (h : BkAt w p b B) {x y : Ln} (hx : x ∈ B.U) (hy : y ∈ B.U) (e : x.g = y.g) : x = y := by
  have := h.inj
  generalize B.U = U at *
  induction U with
  | nil => cases hx
  | cons a r ih =>
    obtain ⟨h1, h2⟩ := List.pairwise_cons.1 this
    rcases List.mem_cons.1 hx with ex | hx' <;> rcases List.mem_cons.1 hy with ey | hy'
    · rw [ex, ey]
    · rw [ex] at e; exact absurd e (h1 y hy')
    · rw [ey] at e; exact absurd e.symm (h1 x hx')
    · exact ih hx' hy' h2
/-- The account of all together. -/
theorem BkAt.acc (h : BkAt w p b B) : AcAt w p 11 B.all := ⟨h.row.cell 11 _ rfl, h.row.cell 12 _ rfl, h.row.cell 13 _ rfl, h.row.cell 14 _ rfl, h.row.cell 15 _ rfl, fun j => h.row.frozen j⟩
theorem BkAt.strm (h : BkAt w p b B) {x : Ln} (hx : x ∈ B.U) : AcAt w x.g 0 x.s.a := by
  have r := h.rows x hx
  exact ⟨r.cell 0 _ rfl, r.cell 1 _ rfl, r.cell 2 _ rfl, r.cell 3 _ rfl, r.cell 4 _ rfl, fun j => r.frozen j⟩
/-- A cell of the book is another one. -/
theorem BkAt.field (h : BkAt w p b B) (j : Nat) (v : Value) {B' : Bk} (hc : (B.cells b).set j v = B'.cells b) (hU : B'.U = B.U) : BkAt (w.setCell ⟨p, j, none⟩ v) p b B' := by
  refine ⟨by rw [← hc]; exact h.row.set j v, ?_, fun x hx => ?_, by rw [hU]; exact h.inj, by rw [hU]; exact h.rise⟩
  · rw [hU]
    exact OwnU.block h.map (Below.heap_setCell w ⟨p, j, none⟩ v b (fun e => h.pb e.symm))
  · rw [hU] at hx
    exact (h.rows x hx).setOther ⟨p, j, none⟩ (h.gp hx) v
/-- A cell of a stream is another one. -/
theorem BkAt.turn (h : BkAt w p b B) {x : Ln} (hx : x ∈ B.U) (j : Nat) (v : Value) {s : Ss} (hc : x.s.cells.set j v = s.cells) : BkAt (w.setCell ⟨x.g, j, none⟩ v) p b { B with U := upd B.U x.num s } := by
  refine ⟨h.row.setOther ⟨x.g, j, none⟩ (fun e => h.gp hx e.symm) v, ?_, fun y hy => ?_, ?_, upd_rising h.rise _ _⟩
  · show World.ownsMap _ _ _ _ _ (upd B.U x.num s).length (UD (upd B.U x.num s))
    rw [UD_upd, upd_len]
    exact OwnU.block h.map (Below.heap_setCell w ⟨x.g, j, none⟩ v b (fun e => h.gb hx e.symm))
  · obtain ⟨z, hz, rfl⟩ := mem_upd.1 hy
    by_cases e : z.num = x.num
    · have := h.rise.inj hz hx e
      subst this
      rw [if_pos rfl]
      show Row _ z.g s.cells 84
      rw [← hc]
      exact (h.rows z hz).set j v
    · rw [if_neg e]
      exact (h.rows z hz).setOther ⟨x.g, j, none⟩ (fun e' => e (by rw [h.ginj hz hx e'])) v
  · show (upd B.U x.num s).Pairwise _
    unfold upd
    rw [List.pairwise_map]
    refine h.inj.imp ?_
    intro a c hac
    split <;> split <;> exact hac
end
theorem upd_foot {p b : Nat} {B : Bk} {n : Int} {s : Ss} {k : Nat} : Foot p b { B with U := upd B.U n s } k ↔ Foot p b B k := by
  unfold Foot
  constructor
  · rintro (h | h | ⟨x, hx, rfl⟩)
    · exact .inl h
    · exact .inr (.inl h)
    · obtain ⟨z, hz, rfl⟩ := mem_upd.1 hx
      refine .inr (.inr ⟨z, hz, ?_⟩)
      split <;> rfl
  · rintro (h | h | ⟨x, hx, rfl⟩)
    · exact .inl h
    · exact .inr (.inl h)
    · refine .inr (.inr ⟨_, mem_upd.2 ⟨x, hx, rfl⟩, ?_⟩)
      split <;> rfl
def Rm.may (r : Rm) : Bool := decide (1 ≤ r.all) && decide (r.all ≤ 1099511627776) && decide (1 ≤ r.each) && decide (r.each ≤ 1099511627776) && decide (1 ≤ r.str) && decide (r.str ≤ 1024)
theorem Rm.may_ok {r : Rm} : r.may = true ↔ r.Ok := by
  unfold Rm.may
  simp only [Bool.and_eq_true, decide_eq_true_eq]
  constructor
  · rintro ⟨⟨⟨⟨⟨h1, h2⟩, h3⟩, h4⟩, h5⟩, h6⟩; exact ⟨h1, h2, h3, h4, h5, h6⟩
  · rintro ⟨h1, h2, h3, h4, h5, h6⟩; exact ⟨⟨⟨⟨⟨h1, h2⟩, h3⟩, h4⟩, h5⟩, h6⟩
theorem below_box (w : World) (o : Obj) : Below w.heap.size w (w.alloc o) := (Below.refl _ _).alloc (Nat.le_refl _) _
theorem box_cells (w : World) (c : Array Value) (t : TypeId) (j : Nat) (v : Value) (h : c[j]? = some v) : (w.alloc (.cells c t)).cell? ⟨w.heap.size, j, none⟩ = some v := by
  rw [cell_of_row _ _ _ _ _ _ (heap_alloc_new w _)]
  exact h
theorem neM (w : World) (b : Nat) : (binOp BinOp.neq 44 (.map (some b)) (.map none)).run Try.prog w = .ok (.bool true) w := by kernel_rfl
theorem neN (w : World) : (binOp BinOp.neq 44 (.map none) (.map none)).run Try.prog w = .ok (.bool false) w := by kernel_rfl
theorem bits_two (s : Int) : bits BinOp.and IntKind.i64 s 1 = s % 2 := by
  have h : ∀ b : BitVec 64, IntKind.i64.wrap ((b &&& 1#64).toNat : Int) = (b.toNat : Int) % 2 := by
    intro b
    have h2 : (b &&& 1#64).toNat = b.toNat % 2 := by rw [BitVec.toNat_and]; exact Nat.and_one_is_mod _
    rw [h2]
    rcases Nat.mod_two_eq_zero_or_one b.toNat with h | h <;> rw [h]
    · have : (b.toNat : Int) % 2 = 0 := by omega
      rw [this]; decide
    · have : (b.toNat : Int) % 2 = 1 := by omega
      rw [this]; decide
  refine (h (BitVec.ofInt 64 s)).trans ?_
  rw [BitVec.toNat_ofInt]
  omega
set_option maxHeartbeats 1000000 in
theorem maybe_any (w : World) (r : Rm) : Calls Try.prog 29 #[r.val] w fun e w' => e = .returned (.bool r.may) ∧ Below w.heap.size w w' := by
  obtain ⟨a, e, s⟩ := r
  unfold Rm.may Rm.val
  simp only
  have hb := below_box w (.cells #[.int .u64 a, .int .u64 e, .int .i64 s] 24)
  have b0 := box_cells w #[.int .u64 a, .int .u64 e, .int .i64 s] 24 0 _ rfl
  have b1 := box_cells w #[.int .u64 a, .int .u64 e, .int .i64 s] 24 1 _ rfl
  have b2 := box_cells w #[.int .u64 a, .int .u64 e, .int .i64 s] 24 2 _ rfl
  have HB := hid hb
  clear hb
  go_enter Try.func29, Try.ntmps29
  go_wp2
  all_goals (go_ret; exact ⟨by first | rfl | (simp_all; done) | (simp_all; omega), HB.out⟩)
theorem newacc_any (w : World) (o m : Int) : Calls Try.prog 30 #[.int .u64 o, .int .u64 m] w fun e w' => e = .returned (.agg #[.int .u64 0, .int .u64 m, .int .u64 0, .int .u64 0, .int .u64 o]) ∧ Below w.heap.size w w' := by
  have R := Row.new w [.int .u64 0, .int .u64 m, .int .u64 0, .int .u64 0, .int .u64 o] 43
  have HB := hid (below_box w (.cells #[.int .u64 0, .int .u64 m, .int .u64 0, .int .u64 0, .int .u64 o] 43))
  go_enter Try.func30, Try.ntmps30
  go_wp2
  refine bodyPost_ret (R.result Try.results30 _ rfl _ Try.underlying43 rfl (by kernel_rfl)) rfl ?_
  exact ⟨rfl, HB.out⟩
theorem given_yes {w : World} {p b : Nat} {B : Bk} (h : BkAt w p b B) : Calls Try.prog 31 #[pt p 0] w fun e w' => e = .returned (.bool true) ∧ w' = w := by
  have c := h.row.cell 16 _ rfl
  have hm := neM w b
  clear h
  go_enter Try.func31, Try.ntmps31
  go_wp2
  go_ret
  exact ⟨rfl, rfl⟩
theorem given_nil (w : World) : Calls Try.prog 31 #[.pointer none] w fun e w' => e = .returned (.bool false) ∧ w' = w := by
  go_enter Try.func31, Try.ntmps31
  go_wp2
  go_ret
  exact ⟨rfl, rfl⟩
theorem given_no {w : World} {p : Nat} (c : w.cell? ⟨p, 16, none⟩ = some (.map none)) : Calls Try.prog 31 #[pt p 0] w fun e w' => e = .returned (.bool false) ∧ w' = w := by
  have hm := neN w
  go_enter Try.func31, Try.ntmps31
  go_wp2
  go_ret
  exact ⟨rfl, rfl⟩
/-- Who opens the streams of a number. -/
def sideN (id : Int) : Int := (id + 1) % 2
theorem sideOf_any (w : World) (id : Int) : Calls Try.prog 33 #[.int .u64 id] w fun e w' => e = .returned (.int .i64 (sideN id)) ∧ w' = w := by
  have HE : Hid (bits BinOp.and IntKind.i64 (wrap64 (IntKind.u64.wrap (id + 1))) 1 = sideN id) := by
    show _ = _
    rw [bits_two, IntKind.wrap_u64]
    unfold sideN wrap64
    omega
  go_enter Try.func33, Try.ntmps33
  go_wp2
  go_ret
  exact ⟨congrArg Ending.returned (congrArg (Value.int .i64) HE.out), rfl⟩
set_option maxHeartbeats 1000000 in
theorem own_any {w : World} {p b : Nat} {B : Bk} (h : BkAt w p b B) (hs : B.side ≤ 1) : Calls Try.prog 34 #[pt p 0] w fun e w' => e = .returned B.own.val ∧ Below w.heap.size w w' := by
  have HR := hid h.row
  clear h
  unfold Bk.own
  have hbz := below_box w (.cells #[.int .u64 0, .int .u64 0, .int .i64 0] 24)
  have HR0 := hid (HR.out.kept hbz HR.out.lt)
  have hs' : B.side = 0 ∨ B.side = 1 := by omega
  rcases hs' with hs' | hs'
  · have c0 := HR0.out.cell 0 _ rfl
    have c1 := HR0.out.cell 1 _ rfl
    have c2 := HR0.out.cell 2 _ rfl
    have c3 := HR0.out.cell 3 _ rfl
    rw [hs'] at c0
    rw [if_pos hs']
    have R := (Row.new w [.int .u64 B.r0.all, .int .u64 B.r0.each, .int .i64 B.r0.str] 24).drew 1
    have HB := hid (below_drewN (below_box w (.cells #[.int .u64 B.r0.all, .int .u64 B.r0.each, .int .i64 B.r0.str] 24)) 1)
    go_enter Try.func34, Try.ntmps34
    go_upto_region 1 with fail
    go_region
    go_wp2
    refine bodyPost_ret (R.result Try.results34 _ rfl _ Try.underlying24 rfl (by kernel_rfl)) rfl ?_
    exact ⟨rfl, HB.out⟩
  · have c0 := HR0.out.cell 0 _ rfl
    have c1 := HR0.out.cell 4 _ rfl
    have c2 := HR0.out.cell 5 _ rfl
    have c3 := HR0.out.cell 6 _ rfl
    rw [hs'] at c0
    rw [if_neg (by omega)]
    have R := (Row.new w [.int .u64 B.r1.all, .int .u64 B.r1.each, .int .i64 B.r1.str] 24).drew 1
    have HB := hid (below_drewN (below_box w (.cells #[.int .u64 B.r1.all, .int .u64 B.r1.each, .int .i64 B.r1.str] 24)) 1)
    go_enter Try.func34, Try.ntmps34
    go_upto_region 1 with fail
    go_region
    go_wp2
    refine bodyPost_ret (R.result Try.results34 _ rfl _ Try.underlying24 rfl (by kernel_rfl)) rfl ?_
    exact ⟨rfl, HB.out⟩
/-- Is nothing left of a stream? -/
theorem gone_any {w : World} {p b : Nat} {B : Bk} (h : BkAt w p b B) {x : Ln} (hx : x ∈ B.U) (k : x.s.a.Ok) : Calls Try.prog 55 #[pt x.g 0] w fun e w' => e = .returned (.bool (!x.s.op && decide (x.s.a.came - x.s.a.used = 0))) ∧ ∃ q, w' = w.drewN q := by
  have hU := unused_any (h.strm hx) k
  have c5 := (h.rows x hx).cell 5 _ rfl
  clear h hx k
  cases ho : x.s.op
  · rw [ho] at c5
    go_enter Try.func55, Try.ntmps55
    go_wp2_with (go_at_call 43; refine hU.mono ?_; rintro e w' ⟨rfl, q, rfl⟩)
    go_ret
    exact ⟨by first | rfl | simp, q, rfl⟩
  · rw [ho] at c5
    go_enter Try.func55, Try.ntmps55
    go_wp2
    go_ret
    exact ⟨by first | rfl | simp, 0, rfl⟩
theorem tells_any {w : World} {p b : Nat} {B : Bk} (h : BkAt w p b B) {x : Ln} (hx : x ∈ B.U) : Calls Try.prog 57 #[pt x.g 0] w fun e w' => e = .returned (.bool (x.s.op && !x.s.deaf)) ∧ w' = w := by
  have c5 := (h.rows x hx).cell 5 _ rfl
  have c6 := (h.rows x hx).cell 6 _ rfl
  clear h hx
  cases ho : x.s.op <;> rw [ho] at c5
  all_goals
    go_enter Try.func57, Try.ntmps57
    go_wp2
    go_ret
    exact ⟨by first | rfl | simp, rfl⟩
end Go.Proofs.Ytahkbklhngiloaa
