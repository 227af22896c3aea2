import Derived.Test.YtjeokomocopjhaaSh0
namespace Go.Proofs.Ytjeokomocopjhaa
open Go.RowKit Go.Maps
set_option maxRecDepth 100000

/-- The streams of one class c as they are laid in: none has had a turn. -/
structure ShB (c : Nat) (q : Int) (i : Nat) (sh wt : Int → Int) (F : Fs) : Prop where
  fq : F.q = q
  cr : ∀ x ∈ F.U, x.s.cr = 0
  st : ∀ x ∈ F.U, x.s.cls = c → 1 ≤ x.num ∧ x.num ≤ i ∧ x.s.shr = sh x.num ∧ x.s.wt = wt x.num
  al : ∀ y : Int, 1 ≤ y → y ≤ i → ∃ x ∈ F.U, x.num = y ∧ x.s.cls = c
  lo : ∀ k, k < c → F.R k = []
theorem fnd_out {U : List Ln} {n : Int} (h : ∀ x ∈ U, x.num ≠ n) : fnd U n = none := by
  cases hf : fnd U n with
  | none => rfl
  | some x => exact absurd (fnd_some hf).2 (h x (fnd_some hf).1)
theorem fnd_ins {U : List Ln} (hU : Rising U) {y : Ln} (h : ∀ x ∈ U, x.num ≠ y.num) : fnd (ins y U) y.num = some y := fnd_of (ins_rising hU h) (mem_ins.2 (.inl rfl))
theorem zero_B (c : Nat) (q : Int) (sh wt : Int → Int) : ShB c q 0 sh wt (Fs.zero q) :=
  ⟨rfl, fun x hx => (by cases hx), fun x hx => (by cases hx), fun y h1 h2 => (by exfalso; omega), fun _ _ => rfl⟩
theorem addE_zero {F : Fs} {id cls shr : Int} (h : ∀ x ∈ F.U, x.num ≠ id) (hc : 0 ≤ cls ∧ cls ≤ 7) (hs : 1 ≤ shr ∧ shr ≤ 255) (hl : F.U.length < 1024) : F.addE id cls shr = 0 := by
  unfold Fs.addE
  rw [fnd_out h]
  simp only [Option.isSome_none, Bool.false_eq_true, if_false]
  rw [if_neg (by omega), if_neg (by omega), if_neg (by omega)]
theorem moreE_zero {s : Ss} {n : Int} (h1 : 1 ≤ n) (h2 : s.wt + n ≤ 1099511627776) : s.moreE n = 0 := by
  unfold Ss.moreE
  rw [if_neg (by omega)]
/-- One more stream, with its bytes. -/
def Fs.lay (F : Fs) (id : Int) (g c : Nat) (s n : Int) : Fs := ({ F with U := ins (fresh id g c s) F.U } : Fs).more (fresh id g c s) n
theorem lay_mem {F : Fs} {id : Int} {g c : Nat} {s n : Int} (hn : ∀ x ∈ F.U, x.num ≠ id) {z : Ln} (hz : z ∈ (F.lay id g c s n).U) : z = ⟨id, g, ⟨c, s, n, 0⟩⟩ ∨ (z.num ≠ id ∧ z ∈ F.U) := by
  obtain ⟨z', hz', rfl⟩ := mem_upd.1 (show z ∈ upd (ins (fresh id g c s) F.U) id ((fresh id g c s).s.plus n) from hz)
  rcases mem_ins.1 hz' with rfl | h1
  · left
    rw [if_pos (show (fresh id g c s).num = id from rfl)]
    show (⟨id, g, ⟨c, s, 0 + n, 0⟩⟩ : Ln) = _
    rw [Int.zero_add]
  · have := hn z' h1
    rw [if_neg this]
    exact .inr ⟨this, h1⟩
theorem lay_self {F : Fs} {id : Int} {g c : Nat} {s n : Int} : (⟨id, g, ⟨c, s, n, 0⟩⟩ : Ln) ∈ (F.lay id g c s n).U := by
  have := mem_upd_self (mem_ins.2 (.inl rfl) : fresh id g c s ∈ ins (fresh id g c s) F.U) ((fresh id g c s).s.plus n)
  have e : (⟨id, g, ⟨c, s, n, 0⟩⟩ : Ln) = { fresh id g c s with s := (fresh id g c s).s.plus n } := by
    show _ = (⟨id, g, ⟨c, s, 0 + n, 0⟩⟩ : Ln)
    rw [Int.zero_add]
  rw [e]
  exact this
theorem lay_old {F : Fs} {id : Int} {g c : Nat} {s n : Int} {z : Ln} (hz : z ∈ F.U) (hn : z.num ≠ id) : z ∈ (F.lay id g c s n).U :=
  mem_upd.2 ⟨z, mem_ins.2 (.inr hz), by rw [if_neg (show ¬ z.num = (fresh id g c s).num from hn)]⟩
theorem lay_R {F : Fs} {id : Int} {g c : Nat} {s n : Int} : (F.lay id g c s n).R = upR F.R c (F.R c ++ [id]) := by
  unfold Fs.lay Fs.more
  rw [if_pos (show (fresh id g c s).s.wt = 0 from rfl)]
  rfl
theorem lay_len {F : Fs} {id : Int} {g c : Nat} {s n : Int} : (F.lay id g c s n).U.length = F.U.length + 1 := by
  show (upd _ _ _).length = _
  rw [upd_len, ins_len]
theorem ShB.next {c : Nat} {q : Int} {i : Nat} {sh wt : Int → Int} {F : Fs} (h : ShB c q i sh wt F) (hn : ∀ x ∈ F.U, x.num ≤ i) {g : Nat} {s n : Int} (hs : sh ((i : Int) + 1) = s) (hw : wt ((i : Int) + 1) = n) : ShB c q (i + 1) sh wt (F.lay ((i : Int) + 1) g c s n) ∧ ∀ x ∈ (F.lay ((i : Int) + 1) g c s n).U, x.num ≤ (i + 1 : Nat) := by
  have hne : ∀ x ∈ F.U, x.num ≠ (i : Int) + 1 := fun x hx => by have := hn x hx; omega
  refine ⟨⟨h.fq, fun z hz => ?_, fun z hz hc => ?_, fun y hy1 hy2 => ?_, fun j hj => ?_⟩, fun z hz => ?_⟩
  · rcases lay_mem hne hz with rfl | ⟨_, h1⟩
    · rfl
    · exact h.cr z h1
  · rcases lay_mem hne hz with rfl | ⟨_, h1⟩
    · exact ⟨by show (1 : Int) ≤ (i : Int) + 1; omega, by show (i : Int) + 1 ≤ _; omega, hs.symm, hw.symm⟩
    · obtain ⟨a1, a2, a3, a4⟩ := h.st z h1 hc
      exact ⟨a1, by omega, a3, a4⟩
  · by_cases e : y = (i : Int) + 1
    · exact ⟨_, lay_self, e.symm, rfl⟩
    · obtain ⟨x, hx, e1, e2⟩ := h.al y hy1 (by omega)
      exact ⟨x, lay_old hx (by rw [e1]; exact e), e1, e2⟩
  · rw [lay_R, upR_other _ _ (by omega)]
    exact h.lo j hj
  · rcases lay_mem hne hz with rfl | ⟨_, h1⟩
    · show (i : Int) + 1 ≤ _; omega
    · have := hn z h1; omega
/-- A stream of a higher class beside them. -/
theorem ShB.beside {c : Nat} {q : Int} {i : Nat} {sh wt : Int → Int} {F : Fs} (h : ShB c q i sh wt F) {id : Int} {g d : Nat} {s n : Int} (hd : c < d) (hne : ∀ x ∈ F.U, x.num ≠ id) : ShB c q i sh wt (F.lay id g d s n) := by
  refine ⟨h.fq, fun z hz => ?_, fun z hz hc => ?_, fun y hy1 hy2 => ?_, fun j hj => ?_⟩
  · rcases lay_mem hne hz with rfl | ⟨_, h1⟩
    · rfl
    · exact h.cr z h1
  · rcases lay_mem hne hz with rfl | ⟨_, h1⟩
    · exact absurd hc (by show ¬ d = c; omega)
    · exact h.st z h1 hc
  · obtain ⟨x, hx, e1, e2⟩ := h.al y hy1 hy2
    exact ⟨x, lay_old hx (hne x hx), e1, e2⟩
  · rw [lay_R, upR_other _ _ (by omega)]
    exact h.lo j hj
theorem ShB.shares {q : Int} {n : Nat} {sh : Int → Int} {F : Fs} (h : ShB 3 q n sh (fun _ => 1099511627776) F) (k : F.Ok) (hn : 0 < n) : ShI q n sh (fun _ => 0) F := by
  obtain ⟨x, hx, e1, e2⟩ := h.al 1 (Int.le_refl _) (by omega)
  have hin : x.num ∈ F.R 3 := (k.row 3 (by decide) x.num).2 ⟨x, hx, rfl, e2, by rw [(h.st x hx e2).2.2.2]; decide⟩
  refine ⟨h.fq, h.lo, fun x hx hc => ?_, h.al, ?_⟩
  · obtain ⟨a1, a2, a3, a4⟩ := h.st x hx hc
    exact ⟨a1, a2, a3, by rw [a4]; rfl⟩
  · cases hR : F.R 3 with
    | nil => rw [hR] at hin; cases hin
    | cons y T =>
      refine ⟨0, y, T, [], Int.le_refl _, by simp, fun x hx _ => ⟨h.cr x hx, by rw [Int.zero_mul]⟩, fun x _ hz => (by cases hz), fun x hx _ => ?_⟩
      rw [if_pos (h.cr x hx), Int.zero_mul]
      rfl
/-- A share that was handed in, as it is taken. -/
def shOf (S : List Int) (y : Int) : Int := 1 + (S.getD (y - 1).toNat 0 % 18446744073709551616) % 255
theorem shOf_bd (S : List Int) (y : Int) : 1 ≤ shOf S y ∧ shOf S y ≤ 255 := by unfold shOf; omega
theorem shOf_at {S : List Int} {i : Nat} (h : i < S.length) : shOf S ((i : Int) + 1) = 1 + (S[i] % 18446744073709551616) % 255 := by
  unfold shOf
  have : ((i : Int) + 1 - 1).toNat = i := by omega
  rw [this, List.getD_eq_getElem?_getD, List.getElem?_eq_getElem h]
  rfl
/-- Both calls that lay a stream in. -/
theorem fa_lay {s0 p : Nat} {w : World} {F : Fs} (h : Fa s0 w p F) {id s : Int} {c : Nat} (h0 : 0 ≤ id) (h1 : id ≤ 18446744073709551615) (hne : ∀ x ∈ F.U, x.num ≠ id) (hc : c ≤ 7) (hs : 1 ≤ s ∧ s ≤ 255) (hl : F.U.length < 1024) :
    Calls Try.prog 9 #[pt p 0, .int .u64 id, .int .i64 c, .int .i64 s] w fun e w' => e = .returned (.int .i64 0) ∧ ∃ g, Mo s0 w w' ∧ ∀ n : Int, 1 ≤ n → n ≤ 1099511627776 →
      Calls Try.prog 10 #[pt p 0, .int .u64 id, .int .i64 n] w' fun e w'' => e = .returned (.int .i64 0) ∧ Fa s0 w'' p (F.lay id g c s n) ∧ Mo s0 w' w'' := by
  refine (fa_add (cls := c) h h0 h1 (addE_zero hne (by omega) hs hl)).mono ?_
  rintro e w' ⟨rfl, g, hF, hm⟩
  refine ⟨rfl, g, hm, fun n hn1 hn2 => ?_⟩
  exact fa_more hF (x := fresh id g c s) (fnd_ins h.1.rise hne) (moreE_zero hn1 (by show (0 : Int) + n ≤ _; omega))
end Go.Proofs.Ytjeokomocopjhaa
