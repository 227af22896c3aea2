import Derived.Test.YtahkbklhngiloaaOr0
namespace Go.Proofs.Ytahkbklhngiloaa
open Go.RowKit Go.Maps
set_option maxRecDepth 100000

/-- What the law holds ahead of a call. -/
structure OrI (w0 : Nat) (wr : World) (p b pn po pm s : Nat) (R0 R1 : Rm) (B : Bk) (Ls : List Int) (v : Value) (i : Nat) : Prop where
  at_ : BkAt wr p b B
  ok : B.Ok
  new : ∀ k, Foot p b B k → w0 ≤ k
  side : B.side = s
  r0 : B.r0 = R0
  r1 : B.r1 = R1
  rn : Row wr pn [.int .u64 B.n0, .int .u64 B.n1] 31
  ro : Row wr po [.int .i64 B.o0, .int .i64 B.o1] 32
  rm : Row wr pm [.int .i64 R1.str, .int .i64 R0.str] 32
  row : wr.ownsRow w0 22 1 v Ls.length (ucells Ls)
  mem : ∀ id, id ∈ Ls ↔ ∃ x ∈ B.U, x.num = id
  nd : Ls.Nodup
  all : ∀ x ∈ B.U, x.s.op = true ∧ x.s.a.came - x.s.a.used = 0
  len : Ls.length ≤ i
  bn : B.n0 ≤ 1 + 2 * i ∧ B.n1 ≤ 2 + 2 * i
  gn : w0 ≤ pn
  go_ : w0 ≤ po
  gm : w0 ≤ pm
  ne : po ≠ pm
  sz : w0 ≤ wr.heap.size
section
variable {w0 : Nat} {wr w' : World} {p b pn po pm s : Nat} {R0 R1 : Rm} {B : Bk} {Ls : List Int} {v : Value} {i : Nat}
theorem OrI.keep (h : OrI w0 wr p b pn po pm s R0 R1 B Ls v i) (hb : Below wr.heap.size wr w') : OrI w0 w' p b pn po pm s R0 R1 B Ls v i :=
  ⟨h.at_.below hb, h.ok, h.new, h.side, h.r0, h.r1, h.rn.kept hb h.rn.lt, h.ro.kept hb h.ro.lt, h.rm.kept hb h.rm.lt, own_keep (S := fun _ => False) h.row (Fr.of_below hb (Nat.le_refl _)) (fun _ _ e => e), h.mem, h.nd, h.all, h.len, h.bn, h.gn, h.go_, h.gm, h.ne, Nat.le_trans h.sz hb.size⟩
theorem OrI.more (h : OrI w0 wr p b pn po pm s R0 R1 B Ls v i) : OrI w0 wr p b pn po pm s R0 R1 B Ls v (i + 1) :=
  ⟨h.at_, h.ok, h.new, h.side, h.r0, h.r1, h.rn, h.ro, h.rm, h.row, h.mem, h.nd, h.all, by have := h.len; omega, by have := h.bn; omega, h.gn, h.go_, h.gm, h.ne, h.sz⟩
theorem mem_fresh {Bx : Bk} {id : Int} {g : Nat} {x : Ln} : x ∈ (Bx.opn id g).U ↔ x = Bx.fresh id g ∨ x ∈ Bx.U := mem_ins
theorem row_ne {w : World} {k k' : Nat} {c c' : List Value} {t t' : TypeId} (h : Row w k c t) (h' : Row w k' c' t') (hne : t ≠ t') : k ≠ k' := fun e => by
  have h1 := h.at_
  rw [e, h'.at_] at h1
  injection h1 with h1
  injection h1 with _ h1
  exact hne h1.symm
/-- A stream was opened. -/
theorem OrI.opened (h : OrI w0 wr p b pn po pm s R0 R1 B Ls v i) {id : Int} (hE : B.openE id = 0) {g : Nat} {w1 : World} (hg : wr.heap.size ≤ g) (h1 : BkAt w1 p b (B.opn id g)) (f1 : Fr (fun k => k = p ∨ k = b) wr w1) {k : Nat} (hk : (k : Int) = sideN id)
    {w2 : World} (e2 : w2 = (w1.setCell ⟨pn, k, none⟩ (.int .u64 ((if sideN id = 0 then B.n0 else B.n1) + 2))).setCell ⟨po, k, none⟩ (.int .i64 ((if sideN id = 0 then B.o0 else B.o1) + 1)))
    {w4 : World} {v' : Value} (hgr : (w2.alloc (.cells #[.int .u64 id] 22)).grownBy w4 v.ownBlock) (ho : w4.ownsRow w0 22 1 v' (Ls.length + 1) (ucells (Ls ++ [id]))) :
    OrI w0 w4 p b pn po pm s R0 R1 (B.opn id g) (Ls ++ [id]) v' (i + 1) := by
  have np : ∀ {k c t}, Row wr k c t → t ≠ 46 → t ≠ 84 → ¬ (k = p ∨ k = b) := fun hr ha hb e => h.at_.notRow hr ha hb (by rcases e with e | e; exact .inl e; exact .inr (.inl e))
  have rn1 := f1.row h.rn (np h.rn (by decide) (by decide))
  have ro1 := f1.row h.ro (np h.ro (by decide) (by decide))
  have rm1 := f1.row h.rm (np h.rm (by decide) (by decide))
  have hno : pn ≠ po := row_ne h.rn h.ro (by decide)
  have hnm : pn ≠ pm := row_ne h.rn h.rm (by decide)
  have f2 : Fr (fun k => k = pn ∨ k = po) w1 w2 := by rw [e2]; exact ((Fr.refl _ _).setCell pn k _ (.inl (.inl rfl))).setCell po k _ (.inl (.inr rfl))
  have rn2 : Row w2 pn [.int .u64 (B.opn id g).n0, .int .u64 (B.opn id g).n1] 31 := by
    rw [e2]
    have := ((rn1.set k (.int .u64 ((if sideN id = 0 then B.n0 else B.n1) + 2))).setOther ⟨po, k, none⟩ hno (.int .i64 ((if sideN id = 0 then B.o0 else B.o1) + 1)))
    rcases sideN_cases id with e | e
    · obtain rfl : k = 0 := by omega
      simp only [e, if_true, Bk.opn] at this ⊢
      exact this
    · obtain rfl : k = 1 := by omega
      simp only [e, show ¬ ((1 : Int) = 0) by omega, if_false, Bk.opn] at this ⊢
      exact this
  have ro2 : Row w2 po [.int .i64 (B.opn id g).o0, .int .i64 (B.opn id g).o1] 32 := by
    rw [e2]
    have := (ro1.setOther ⟨pn, k, none⟩ (fun e => hno e.symm) (.int .u64 ((if sideN id = 0 then B.n0 else B.n1) + 2))).set k (.int .i64 ((if sideN id = 0 then B.o0 else B.o1) + 1))
    rcases sideN_cases id with e | e
    · obtain rfl : k = 0 := by omega
      simp only [e, if_true, Bk.opn] at this ⊢
      exact this
    · obtain rfl : k = 1 := by omega
      simp only [e, show ¬ ((1 : Int) = 0) by omega, if_false, Bk.opn] at this ⊢
      exact this
  have rm2 := f2.row rm1 (by rintro (e | e); exact hnm e.symm; exact h.ne e.symm)
  have np1 : ∀ {k c t}, Row w1 k c t → t ≠ 46 → t ≠ 84 → ¬ Foot p b (B.opn id g) k := fun hr ha hb => h1.notRow hr ha hb
  have h2 : BkAt w2 p b (B.opn id g) := h1.kept f2 (fun k hk e => by rcases e with e | e; exact np1 rn1 (by decide) (by decide) (e ▸ hk); exact np1 ro1 (by decide) (by decide) (e ▸ hk))
  have hv1 : w1.ownsRow w0 22 1 v Ls.length (ucells Ls) := own_keep h.row f1 (fun g e hs => h.at_.notOwn h.row (by decide) (by decide) e (by rcases hs with e | e; exact .inl e; exact .inr (.inl e)))
  have hv2 : w2.ownsRow w0 22 1 v Ls.length (ucells Ls) := own_keep hv1 f2 (fun g e hs => by rcases hs with e' | e'; exact own_notRow hv1 rn1 (by decide) e e'; exact own_notRow hv1 ro1 (by decide) e e')
  have f3 : Fr (fun k => v.ownBlock = some k) w2 w4 := (Fr.of_below (below_box w2 _) (Nat.le_refl _)).trans (T := fun k => v.ownBlock = some k) (Fr.of_grown hgr (fun k e => .inl e)) (fun _ e => .inl e)
  have hid : (B.fresh id g).num = id := rfl
  have hnew : id ∉ Ls := fun hm => by
    obtain ⟨x, hx, e⟩ := (h.mem id).1 hm
    have := h.ok.num x hx
    have := h.ok.n0
    have := h.ok.n1
    unfold Bk.openE sideN at hE
    split at hE
    · split at hE
      · omega
      · omega
    · split at hE
      · omega
      · omega
  refine ⟨h2.kept f3 (fun k hk e => h2.notOwn hv2 (by decide) (by decide) e hk), opn_ok h.ok hE g, ?_, h.side, h.r0, h.r1, f3.row rn2 (fun e => own_notRow hv2 rn2 (by decide) e rfl), f3.row ro2 (fun e => own_notRow hv2 ro2 (by decide) e rfl), f3.row rm2 (fun e => own_notRow hv2 rm2 (by decide) e rfl), by simpa using ho, fun z => ?_, ?_, fun x hx => ?_, by have := h.len; simp; omega, ?_, h.gn, h.go_, h.gm, h.ne, ?_⟩
  · rintro k (rfl | rfl | ⟨x, hx, rfl⟩)
    · exact h.new _ (.inl rfl)
    · exact h.new _ (.inr (.inl rfl))
    · rcases mem_fresh.1 hx with rfl | hx
      · exact Nat.le_trans h.sz hg
      · exact h.new _ (.inr (.inr ⟨x, hx, rfl⟩))
  · rw [List.mem_append, List.mem_singleton, h.mem]
    constructor
    · rintro (⟨x, hx, e⟩ | rfl)
      · exact ⟨x, mem_fresh.2 (.inr hx), e⟩
      · exact ⟨_, mem_fresh.2 (.inl rfl), hid⟩
    · rintro ⟨x, hx, e⟩
      rcases mem_fresh.1 hx with rfl | hx
      · exact .inr e.symm
      · exact .inl ⟨x, hx, e⟩
  · rw [List.nodup_append]
    exact ⟨h.nd, by simp, fun a ha c hc => by rw [List.mem_singleton.1 hc]; intro e; exact hnew (e ▸ ha)⟩
  · rcases mem_fresh.1 hx with rfl | hx
    · exact ⟨rfl, rfl⟩
    · exact h.all x hx
  · have := h.bn
    unfold Bk.opn
    simp only
    constructor <;> split <;> omega
  · have a1 := f1.size
    have a2 := f2.size
    have a3 := f3.size
    have := h.sz
    omega
/-- A stream was closed. -/
theorem OrI.closed (h : OrI w0 wr p b pn po pm s R0 R1 B Ls v i) {x : Ln} (hx : x ∈ B.U) {w1 : World} (h1 : BkAt w1 p b (B.cls x)) (f1 : Fr (fun k => Foot p b B k) wr w1) {k : Nat} (hk : (k : Int) = sideN x.num)
    {w2 : World} (e2 : w2 = w1.setCell ⟨po, k, none⟩ (.int .i64 ((if sideN x.num = 0 then B.o0 else B.o1) - 1))) {w4 : World} {v' : Value} {Ls' : List Int} (f3 : Below w2.heap.size w2 w4) (ho : w4.ownsRow w0 22 1 v' Ls'.length (ucells Ls'))
    (hL : ∀ z, z ∈ Ls' ↔ z ∈ Ls ∧ z ≠ x.num) (hn : Ls'.Nodup) (hl : Ls'.length ≤ Ls.length) :
    OrI w0 w4 p b pn po pm s R0 R1 (B.cls x) Ls' v' (i + 1) := by
  have hz := h.all x hx
  have rn1 := f1.row h.rn (h.at_.notRow h.rn (by decide) (by decide))
  have ro1 := f1.row h.ro (h.at_.notRow h.ro (by decide) (by decide))
  have rm1 := f1.row h.rm (h.at_.notRow h.rm (by decide) (by decide))
  have hno : pn ≠ po := row_ne h.rn h.ro (by decide)
  have f2 : Fr (fun k => k = po) w1 w2 := by rw [e2]; exact (Fr.refl _ _).setCell po k _ (.inl rfl)
  have hfr : Fr (fun _ => False) w2 w4 := Fr.of_below f3 (Nat.le_refl _)
  have hok := cls_ok0 h.ok h.at_.rise hx hz.1 hz.2
  have ro2 : Row w2 po [.int .i64 (B.cls x).o0, .int .i64 (B.cls x).o1] 32 := by
    rw [e2, cls_gone hz.2]
    have := ro1.set k (.int .i64 ((if sideN x.num = 0 then B.o0 else B.o1) - 1))
    rcases sideN_cases x.num with e | e
    · obtain rfl : k = 0 := by omega
      simp only [e, if_true] at this ⊢
      exact this
    · obtain rfl : k = 1 := by omega
      simp only [e, show ¬ ((1 : Int) = 0) by omega, if_false] at this ⊢
      exact this
  have h2 : BkAt w2 p b (B.cls x) := h1.kept f2 (fun k hk e => h1.notRow ro1 (by decide) (by decide) (e ▸ hk))
  have hUm : ∀ y, y ∈ (B.cls x).U ↔ y ∈ B.U ∧ y.num ≠ x.num := fun y => by rw [cls_gone hz.2]; exact mem_less
  have hft : ∀ k, Foot p b (B.cls x) k → Foot p b B k := fun k hk => by
    rcases hk with e | e | ⟨y, hy, e⟩
    · exact .inl e
    · exact .inr (.inl e)
    · exact .inr (.inr ⟨y, ((hUm y).1 hy).1, e⟩)
  have hn01 : (B.cls x).n0 = B.n0 ∧ (B.cls x).n1 = B.n1 ∧ (B.cls x).side = B.side ∧ (B.cls x).r0 = B.r0 ∧ (B.cls x).r1 = B.r1 := by rw [cls_gone hz.2]; exact ⟨rfl, rfl, rfl, rfl, rfl⟩
  refine ⟨h2.below f3, hok, fun k hk => h.new k (hft k hk), hn01.2.2.1.trans h.side, hn01.2.2.2.1.trans h.r0, hn01.2.2.2.2.trans h.r1, ?_, hfr.row ro2 (fun e => e), hfr.row (f2.row rm1 (fun e => h.ne e.symm)) (fun e => e), ho, fun z => ?_, hn, fun y hy => h.all y ((hUm y).1 hy).1, by have := h.len; omega, ?_, h.gn, h.go_, h.gm, h.ne, ?_⟩
  · rw [hn01.1, hn01.2.1]
    exact hfr.row (f2.row rn1 hno) (fun e => e)
  · rw [hL, h.mem]
    constructor
    · rintro ⟨⟨y, hy, e⟩, hne⟩
      exact ⟨y, (hUm y).2 ⟨hy, by rw [e]; exact hne⟩, e⟩
    · rintro ⟨y, hy, e⟩
      obtain ⟨a1, a2⟩ := (hUm y).1 hy
      exact ⟨⟨y, a1, e⟩, by rw [← e]; exact a2⟩
  · rw [hn01.1, hn01.2.1]
    have := h.bn
    omega
  · have := f1.size; have := f2.size; have := f3.size; have := h.sz; omega
/-- What Next answers. -/
theorem OrI.next (h : OrI w0 wr p b pn po pm s R0 R1 B Ls v i) : (B.openE B.nextN = 0) ↔ (if s = 0 then B.o0 < R1.str else B.o1 < R0.str) := by
  have n0 := h.ok.n0
  have n1 := h.ok.n1
  have e := h.side
  unfold Bk.nextN Bk.openE sideN
  rw [h.r0, h.r1, e]
  by_cases hs : s = 0
  · rw [if_pos hs, if_pos hs, if_pos (by omega), if_neg (by omega)]
    split <;> omega
  · rw [if_neg hs, if_neg hs, if_neg (by omega), if_neg (by omega)]
    split <;> omega
end
end Go.Proofs.Ytahkbklhngiloaa
