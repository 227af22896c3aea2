import Derived.Test.YtahkbklhngiloaaCr11
import Derived.Test.YtahkbklhngiloaaCOpen
namespace Go.Proofs.Ytahkbklhngiloaa
open Go.RowKit Go.Maps
set_option maxRecDepth 100000

/-- Rooms that may be, made of any ones. -/
def Rm.fit (r : Rm) : Rm := ⟨1 + r.all % 1099511627776, 1 + r.each % 1099511627776, 1 + r.str % 1024⟩
theorem Rm.fit_ok (r : Rm) : r.fit.Ok := by
  unfold Rm.fit
  constructor <;> simp only <;> omega
theorem fit_any (w : World) (r : Rm) (h0 : 0 ≤ r.all ∧ r.all ≤ 18446744073709551615) (h1 : 0 ≤ r.each ∧ r.each ≤ 18446744073709551615) : Calls Try.prog 9 #[r.val] w fun e w' => e = .returned r.fit.val ∧ Below w.heap.size w w' := by
  obtain ⟨a, e, s⟩ := r
  unfold Rm.val Rm.fit
  simp only at h0 h1 ⊢
  have hba := below_box w (.cells #[.int .u64 a, .int .u64 e, .int .i64 s] 24)
  have hbb := below_box (w.alloc (.cells #[.int .u64 a, .int .u64 e, .int .i64 s] 24)) (.cells #[.int .u64 0, .int .u64 0, .int .i64 0] 24)
  have Ra := (Row.new w [.int .u64 a, .int .u64 e, .int .i64 s] 24).kept hbb (by simp)
  have c0 := Ra.cell 0 _ rfl
  have c1 := Ra.cell 1 _ rfl
  have c2 := Ra.cell 2 _ rfl
  have hb := build24
  have e0 : IntKind.u64.wrap (1 + a % 1099511627776) = 1 + a % 1099511627776 := by rw [IntKind.wrap_u64]; omega
  have e1 : IntKind.u64.wrap (1 + e % 1099511627776) = 1 + e % 1099511627776 := by rw [IntKind.wrap_u64]; omega
  have e2 : IntKind.u64.wrap s = s % 18446744073709551616 := IntKind.wrap_u64 s
  have e3 : wrap64 (s % 1024) = s % 1024 := by unfold wrap64; omega
  have e4 : wrap64 (1 + s % 1024) = 1 + s % 1024 := by unfold wrap64; omega
  have e5 : s % 18446744073709551616 % 1024 = s % 1024 := by omega
  have t0 : Int.tmod a 1099511627776 = a % 1099511627776 := by rw [Int.tmod_eq_emod_of_nonneg h0.1]
  have t1 : Int.tmod e 1099511627776 = e % 1099511627776 := by rw [Int.tmod_eq_emod_of_nonneg h1.1]
  have t2 : Int.tmod (s % 18446744073709551616) 1024 = s % 1024 := by rw [Int.tmod_eq_emod_of_nonneg (by omega), e5]
  have hsz : (w.alloc (.cells #[.int .u64 a, .int .u64 e, .int .i64 s] 24)).heap.size = w.heap.size + 1 := by simp
  have R := Row.new (w.alloc (.cells #[.int .u64 a, .int .u64 e, .int .i64 s] 24)) [.int .u64 (1 + a % 1099511627776), .int .u64 (1 + e % 1099511627776), .int .i64 (1 + s % 1024)] 24
  rw [hsz] at R
  have HB := hid2 (hba.trans ((below_box (w.alloc (.cells #[.int .u64 a, .int .u64 e, .int .i64 s] 24)) (.cells #[.int .u64 (1 + a % 1099511627776), .int .u64 (1 + e % 1099511627776), .int .i64 (1 + s % 1024)] 24)).mono hba.size))
  clear hba hbb Ra hsz
  go_enter Try.func9, Try.ntmps9
  go_wp2
  refine bodyPost_ret (R.result Try.results9 _ rfl _ Try.underlying24 rfl (by kernel_rfl)) rfl ?_
  exact ⟨rfl, HB.out⟩
def ucells (l : List Int) : List Value := l.map (Value.int .u64)
theorem ucells_one (l : List Int) : ∀ v ∈ ucells l, v.oneCell' = true := by
  intro v hv
  obtain ⟨x, _, rfl⟩ := List.mem_map.1 hv
  rfl
theorem ucells_app (a b : List Int) : ucells (a ++ b) = ucells a ++ ucells b := List.map_append
theorem info22 : ∃ i : TypeInfo, Try.prog.info? 22 = some i ∧ i.zero = some (.int .u64 0) ∧ i.size = 1 ∧ i.bytes = 8 := by
  have h : (Try.prog.info? 22).map (fun i => (i.zero, i.size, i.bytes)) = some (some (.int .u64 0), 1, 8) := by kernel_rfl
  cases hq : Try.prog.info? 22 with
  | none => rw [hq] at h; cases h
  | some i => rw [hq] at h; simp at h; exact ⟨i, rfl, h.1, h.2.1, h.2.2⟩
/-- 'append' of numbers that lie somewhere to an own row. -/
theorem wpNums {ops : Array Oper} {rest : List Oper} {o : Oper} {a : Act} {w : World} {Q : Exit → Act → World → Prop} (s x : Operand) (hgd : o.guard = none) (ho : o.op = .call { callee := .builtin .append, args := #[s, x], argTypes := #[33, 33] })
    {base k : Nat} {v : Value} {old : List Int} (hs : a.eval s = v) (hown : w.ownsRow base 22 1 v k (ucells old)) (hbase : base ≤ w.heap.size) {ad : Addr} {m c : Nat} {news : List Int} (hx : a.eval x = .slice (some ad) m c) (hm : news.length = m)
    (hc : ∀ j (h : j < news.length), w.cell? (ad.add j) = some (.int .u64 news[j])) (hl : k + m ≤ 17592186044416)
    (h : ∀ w' v', Hid (w'.ownsRow base 22 1 v' (k + m) (ucells (old ++ news))) → Hid (w.grownBy w' v.ownBlock) → wpList Try.prog ops Q rest (a.put o.dst v') w') : wpList Try.prog ops Q (o :: rest) a w := by
  obtain ⟨inf, h1, h2, h3, h4⟩ := info22
  refine wpList_append_own_at w hgd s x 33 ho base 22 inf (.int .u64 0) 1 8 Try.underlying33 h1 h2 h3 h4 rfl (by decide) v k (ucells old) hs hown ad m c (ucells news) hx (by simp [ucells, hm]) ?_ (ucells_one _) (by unfold maxLen; omega) (by omega) hbase ?_
  · intro j u hv
    have hj : j < news.length := by have := (List.getElem?_eq_some_iff.1 hv).1; simpa [ucells] using this
    rw [hc j hj, ← hv]
    simp [ucells, hj]
  · intro v' w' hown' hgrow _ _
    refine h w' v' ?_ hgrow
    show World.ownsRow _ _ _ _ _ _ _
    rw [ucells_app]
    exact hown'
/-- A book's memory and a block of another type. -/
theorem BkAt.other {w : World} {p b : Nat} {B : Bk} (h : BkAt w p b B) {k : Nat} {c : Array Value} {t : TypeId} {q : Nat × Nat} (hk : w.heap[k]? = some (.cells c t q)) (h1 : t ≠ 46) (h2 : t ≠ 84) : ¬ Foot p b B k := by
  rintro (rfl | rfl | ⟨x, hx, rfl⟩)
  · rw [h.row.at_] at hk
    injection hk with hk
    injection hk with _ hk
    exact h1 hk.symm
  · obtain ⟨es, clock, hb, _⟩ := h.map
    rw [hb] at hk
    cases hk
  · rw [(h.rows x hx).at_] at hk
    injection hk with hk
    injection hk with _ hk
    exact h2 hk.symm
theorem BkAt.notRow {w : World} {p b : Nat} {B : Bk} (h : BkAt w p b B) {k : Nat} {c : List Value} {t : TypeId} (hk : Row w k c t) (h1 : t ≠ 46) (h2 : t ≠ 84) : ¬ Foot p b B k := h.other hk.at_ h1 h2
theorem BkAt.notOwn {w : World} {p b : Nat} {B : Bk} (h : BkAt w p b B) {base : Nat} {t : TypeId} {sz : Nat} {v : Value} {n : Nat} {xs : List Value} (ho : w.ownsRow base t sz v n xs) (h1 : t ≠ 46) (h2 : t ≠ 84) {g : Nat} (e : v.ownBlock = some g) : ¬ Foot p b B g := by
  obtain ⟨hl, ⟨rfl, _⟩ | ⟨g', cap, cur, rfl, hb, hg, _⟩⟩ := ho
  · simp [Value.ownBlock] at e
  · simp only [Value.ownBlock, Option.some.injEq] at e
    subst e
    exact h.other hg h1 h2
theorem own_keep {w w' : World} {S : Nat → Prop} {base : Nat} {t : TypeId} {sz : Nat} {v : Value} {n : Nat} {xs : List Value} (h : w.ownsRow base t sz v n xs) (hf : Fr S w w') (hS : ∀ g, v.ownBlock = some g → ¬ S g) : w'.ownsRow base t sz v n xs := by
  obtain ⟨hl, h0 | ⟨g, cap, cur, e, hb, hg, r⟩⟩ := h
  · exact ⟨hl, .inl h0⟩
  · exact ⟨hl, .inr ⟨g, cap, cur, e, hb, (hf.block g (Array.getElem?_eq_some_iff.1 hg).1 (hS g (by rw [e]; rfl))).trans hg, r⟩⟩
theorem own_notRow {w : World} {base : Nat} {t t' : TypeId} {sz : Nat} {v : Value} {n : Nat} {xs : List Value} (h : w.ownsRow base t sz v n xs) {k : Nat} {c : List Value} (hk : Row w k c t') (hne : t ≠ t') {g : Nat} (e : v.ownBlock = some g) : g ≠ k := by
  obtain ⟨hl, ⟨rfl, _⟩ | ⟨g', cap, cur, rfl, hb, hg, _⟩⟩ := h
  · simp [Value.ownBlock] at e
  · simp only [Value.ownBlock, Option.some.injEq] at e
    subst e
    intro e
    rw [e, hk.at_] at hg
    injection hg with hg
    injection hg with _ hg
    exact hne hg.symm
/-- An own row of numbers, to read. -/
theorem own_nums {w : World} {base : Nat} {v : Value} {l : List Int} (h : w.ownsRow base 22 1 v l.length (ucells l)) : ∃ a c, v = .slice a l.length c ∧ l.length ≤ c ∧ c ≤ maxLen ∧ (∀ j (hj : j < l.length), ∃ g, a = some ⟨g, 0, none⟩ ∧ w.cell? ⟨g, j, none⟩ = some (.int .u64 l[j])) := by
  obtain ⟨hl, ⟨rfl, hn⟩ | ⟨g, cap, cur, rfl, hb, hg, hnc, hcm, hcs, htk⟩⟩ := h
  · exact ⟨none, 0, by rw [hn], by omega, Nat.zero_le _, fun j hj => by omega⟩
  · refine ⟨some ⟨g, 0, none⟩, cap, rfl, hnc, hcm, fun j hj => ⟨g, rfl, ?_⟩⟩
    have : cur.toList[j]? = some (.int .u64 l[j]) := by
      rw [← List.getElem?_take_of_lt (show j < l.length * 1 by omega), htk]
      simp [ucells, hj]
    rw [cell_of_row w g _ _ _ _ hg, ← Array.getElem?_toList]
    exact this
theorem less_upd (U : List Ln) (n : Int) (s : Ss) : less (upd U n s) n = less U n := by
  induction U with
  | nil => rfl
  | cons a r ih =>
    have e1 : upd (a :: r) n s = (if a.num = n then { a with s := s } else a) :: upd r n s := rfl
    rw [e1]
    unfold less at *
    rw [List.filter_cons, List.filter_cons]
    by_cases h : a.num = n
    · rw [if_pos h, if_neg (by simp [h]), if_neg (by simp [h]), ih]
    · rw [if_neg h, if_pos (by simp [h]), if_pos (by simp [h]), ih]
theorem less_none {U : List Ln} {n : Int} (h : ∀ x ∈ U, x.num ≠ n) : less U n = U := by
  unfold less
  rw [List.filter_eq_self]
  intro x hx
  simp [h x hx]
theorem cnt_less (f : Ln → Bool) : ∀ {U : List Ln}, Rising U → ∀ {x : Ln}, x ∈ U → ((less U x.num).filter f).length + (if f x = true then 1 else 0) = (U.filter f).length
  | [], _, _, hx => by cases hx
  | a :: r, h, x, hx => by
    obtain ⟨h1, h2⟩ := List.pairwise_cons.1 h
    rcases List.mem_cons.1 hx with rfl | hx
    · have hl : less (x :: r) x.num = r := by
        have h0 : less (x :: r) x.num = less r x.num := by unfold less; rw [List.filter_cons, if_neg (by simp)]
        rw [h0]
        exact less_none (fun y hy => by have := h1 y hy; omega)
      rw [hl, List.filter_cons]
      split <;> simp
    · have hne : a.num ≠ x.num := by have := h1 x hx; omega
      have h0 : less (a :: r) x.num = a :: less r x.num := by unfold less; rw [List.filter_cons, if_pos (by simp [hne])]
      have ih := cnt_less f h2 hx
      rw [h0, List.filter_cons, List.filter_cons]
      by_cases hf : f a = true
      · rw [if_pos hf, if_pos hf]
        simp only [List.length_cons]
        omega
      · rw [if_neg hf, if_neg hf]
        exact ih
theorem cls_gone {B : Bk} {x : Ln} (h : x.s.a.came - x.s.a.used = 0) : B.cls x = { B with o0 := if sideN x.num = 0 then B.o0 - 1 else B.o0, o1 := if sideN x.num = 0 then B.o1 else B.o1 - 1, U := less B.U x.num } := by
  unfold Bk.cls Bk.forget
  have hg : x.shut.s.gone = true := by
    show (!false && decide (x.s.a.came - x.s.a.used = 0)) = true
    rw [h]
    rfl
  rw [hg]
  simp only [if_true, Bk.cls0, Ln.shut]
  rw [less_upd]
theorem cls_ok0 {B : Bk} (K : B.Ok) (hU : Rising B.U) {x : Ln} (hx : x ∈ B.U) (ho : x.s.op = true) (h : x.s.a.came - x.s.a.used = 0) : (B.cls x).Ok := by
  rw [cls_gone h]
  obtain ⟨sd, k0, k1, n0, n1, o0, o1, al, ss, nm⟩ := K
  have c0 := cnt_less (fun x => x.s.op && decide (sideN x.num = 0)) hU hx
  have c1 := cnt_less (fun x => x.s.op && decide (sideN x.num = 1)) hU hx
  have e0 : cntO (less B.U x.num) 0 = ((less B.U x.num).filter fun x => x.s.op && decide (sideN x.num = 0)).length := rfl
  have e1 : cntO (less B.U x.num) 1 = ((less B.U x.num).filter fun x => x.s.op && decide (sideN x.num = 1)).length := rfl
  have d0 : cntO B.U 0 = (B.U.filter fun x => x.s.op && decide (sideN x.num = 0)).length := rfl
  have d1 : cntO B.U 1 = (B.U.filter fun x => x.s.op && decide (sideN x.num = 1)).length := rfl
  rw [← e0, ← d0] at c0
  rw [← e1, ← d1] at c1
  rcases sideN_cases x.num with e | e
  · rw [if_pos (by simp [ho, e])] at c0
    rw [if_neg (by simp [ho, e])] at c1
    refine ⟨sd, k0, k1, n0, n1, ?_, ?_, al, fun y hy => ss y (mem_less.1 hy).1, fun y hy => nm y (mem_less.1 hy).1⟩
    · simp only [e, if_true]; omega
    · simp only [e, if_true]; omega
  · rw [if_neg (by simp [ho, e])] at c0
    rw [if_pos (by simp [ho, e])] at c1
    have e10 : ¬ ((1 : Int) = 0) := by omega
    refine ⟨sd, k0, k1, n0, n1, ?_, ?_, al, fun y hy => ss y (mem_less.1 hy).1, fun y hy => nm y (mem_less.1 hy).1⟩
    · simp only [e, e10, if_false]; omega
    · simp only [e, e10, if_false]; omega
end Go.Proofs.Ytahkbklhngiloaa
