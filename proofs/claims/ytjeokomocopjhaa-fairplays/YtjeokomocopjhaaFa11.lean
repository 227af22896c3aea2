import Derived.Test.YtjeokomocopjhaaFa10
namespace Go.Proofs.Ytjeokomocopjhaa
open Go.RowKit Go.Maps
set_option maxRecDepth 100000

/-- What the numbers may be, and who stands in the rows. -/
structure Fs.Ok (F : Fs) : Prop where
  q0 : 1 ≤ F.q
  q1 : F.q ≤ 65536
  len : F.U.length ≤ 1024
  rise : Rising F.U
  num : ∀ x ∈ F.U, 0 ≤ x.num ∧ x.num ≤ 18446744073709551615
  cls : ∀ x ∈ F.U, x.s.cls < 8
  shr : ∀ x ∈ F.U, 1 ≤ x.s.shr ∧ x.s.shr ≤ 255
  wt : ∀ x ∈ F.U, 0 ≤ x.s.wt ∧ x.s.wt ≤ 1099511627776
  cr : ∀ x ∈ F.U, 0 ≤ x.s.cr ∧ x.s.cr ≤ F.q * x.s.shr
  row : ∀ c, c < 8 → ∀ y, y ∈ F.R c ↔ ∃ x ∈ F.U, x.num = y ∧ x.s.cls = c ∧ 0 < x.s.wt
  nd : ∀ c, c < 8 → (F.R c).Nodup
theorem zero_ok (z : Int) : (Fs.zero (qN z)).Ok :=
  ⟨(qN_bd z).1, (qN_bd z).2, Nat.zero_le _, List.Pairwise.nil, fun x hx => (by cases hx), fun x hx => (by cases hx), fun x hx => (by cases hx), fun x hx => (by cases hx), fun x hx => (by cases hx),
    fun c _ y => ⟨fun h => (by cases h), fun ⟨x, hx, _⟩ => (by cases hx)⟩, fun c _ => List.nodup_nil⟩
theorem nodup_len : ∀ {acc U : List Int}, acc.Nodup → (∀ x ∈ acc, x ∈ U) → acc.length ≤ U.length
  | [], _, _, _ => Nat.zero_le _
  | a :: r, U, hn, h => by
    obtain ⟨s, t, rfl⟩ := List.append_of_mem (h a (by simp))
    obtain ⟨h1, h2⟩ := List.nodup_cons.1 hn
    have := nodup_len (acc := r) (U := s ++ t) h2 (fun x hx => by
      have hx' := h x (by simp [hx])
      simp only [List.mem_append, List.mem_cons] at hx' ⊢
      rcases hx' with h3 | h3 | h3
      · exact .inl h3
      · subst h3; exact absurd hx h1
      · exact .inr h3)
    simp only [List.length_append, List.length_cons] at *
    omega
theorem Fs.Ok.rlen {F : Fs} (k : F.Ok) {c : Nat} (hc : c < 8) : (F.R c).length ≤ 1024 := by
  have := nodup_len (k.nd c hc) (U := F.U.map Ln.num) (fun y hy => by
    obtain ⟨x, hx, e, _⟩ := (k.row c hc y).1 hy
    exact List.mem_map.2 ⟨x, hx, e⟩)
  have h2 := k.len
  simp only [List.length_map] at this
  omega
theorem Fs.Ok.cr' {F : Fs} (k : F.Ok) {x : Ln} (hx : x ∈ F.U) : 0 ≤ x.s.cr ∧ x.s.cr ≤ 16711680 := by
  have h1 := k.cr x hx
  have h2 := k.shr x hx
  have h3 := Int.mul_le_mul k.q1 h2.2 (by omega) (by omega)
  omega
theorem addE_ok {F : Fs} {id cls shr : Int} (h : F.addE id cls shr = 0) : fnd F.U id = none ∧ 0 ≤ cls ∧ cls ≤ 7 ∧ 1 ≤ shr ∧ shr ≤ 255 ∧ F.U.length < 1024 := by
  unfold Fs.addE at h
  cases hf : fnd F.U id with
  | some x => rw [hf] at h; simp at h
  | none =>
    rw [hf] at h
    simp only [Option.isSome_none, Bool.false_eq_true, if_false] at h
    split at h
    · exact absurd h (by decide)
    · split at h
      · exact absurd h (by decide)
      · split at h
        · exact absurd h (by decide)
        · exact ⟨rfl, by omega, by omega, by omega, by omega, by omega⟩
theorem Fs.Ok.add {F : Fs} (k : F.Ok) {id shr : Int} {cls g : Nat} (h0 : 0 ≤ id) (h1 : id ≤ 18446744073709551615) (h : F.addE id cls shr = 0) : ({ F with U := ins (fresh id g cls shr) F.U } : Fs).Ok := by
  obtain ⟨hf, _, hc, hs0, hs1, hl⟩ := addE_ok h
  have hmul : 0 ≤ F.q * shr := Int.mul_nonneg (by have := k.q0; omega) (by omega)
  refine ⟨k.q0, k.q1, by show (ins _ _).length ≤ _; rw [ins_len]; omega, ins_rising k.rise (fnd_none hf), ?_, ?_, ?_, ?_, ?_, fun c hcc y => ?_, k.nd⟩
  · intro x hx
    rcases mem_ins.1 hx with rfl | hx
    · exact ⟨h0, h1⟩
    · exact k.num x hx
  · intro x hx
    rcases mem_ins.1 hx with rfl | hx
    · show cls < 8; omega
    · exact k.cls x hx
  · intro x hx
    rcases mem_ins.1 hx with rfl | hx
    · exact ⟨hs0, hs1⟩
    · exact k.shr x hx
  · intro x hx
    rcases mem_ins.1 hx with rfl | hx
    · exact ⟨Int.le_refl _, by show (0 : Int) ≤ _; decide⟩
    · exact k.wt x hx
  · intro x hx
    rcases mem_ins.1 hx with rfl | hx
    · exact ⟨Int.le_refl _, hmul⟩
    · exact k.cr x hx
  · rw [k.row c hcc y]
    constructor
    · rintro ⟨x, hx, h⟩; exact ⟨x, mem_ins.2 (.inr hx), h⟩
    · rintro ⟨x, hx, h⟩
      rcases mem_ins.1 hx with rfl | hx
      · exact absurd h.2.2 (by show ¬ (0 : Int) < 0; decide)
      · exact ⟨x, hx, h⟩
/-- What holds of all streams holds behind a turn of one. -/
theorem upd_all {U : List Ln} {x : Ln} {s : Ss} {P : Ln → Prop} (h : ∀ y ∈ U, y.num ≠ x.num → P y) (hU : Rising U) (hx : x ∈ U) (hP : P { x with s := s }) : ∀ y ∈ upd U x.num s, P y := by
  intro y hy
  obtain ⟨z, hz, rfl⟩ := mem_upd.1 hy
  by_cases e : z.num = x.num
  · have := hU.inj hz hx e
    subst this
    rw [if_pos rfl]
    exact hP
  · rw [if_neg e]
    exact h z hz e
theorem upd_ex {U : List Ln} {x : Ln} {s : Ss} (hx : x ∈ U) (y : Int) (Q : Ss → Prop) : (∃ z ∈ upd U x.num s, z.num = y ∧ Q z.s) ↔ if y = x.num then Q s else ∃ z ∈ U, z.num = y ∧ Q z.s := by
  constructor
  · rintro ⟨z', hz', e, hq⟩
    obtain ⟨z, hz, rfl⟩ := mem_upd.1 hz'
    by_cases e1 : z.num = x.num
    · rw [if_pos e1] at e hq
      have e2 : y = x.num := by rw [← e, ← e1]
      rw [if_pos e2]
      exact hq
    · rw [if_neg e1] at e hq
      rw [if_neg (by rw [← e]; exact e1)]
      exact ⟨z, hz, e, hq⟩
  · intro h
    by_cases e : y = x.num
    · rw [if_pos e] at h
      exact ⟨{ x with s := s }, mem_upd_self hx s, e.symm, h⟩
    · rw [if_neg e] at h
      obtain ⟨z, hz, e1, hq⟩ := h
      refine ⟨z, mem_upd.2 ⟨z, hz, ?_⟩, e1, hq⟩
      rw [if_neg (by rw [e1]; exact e)]
theorem Fs.Ok.one {F : Fs} (k : F.Ok) {x : Ln} (hx : x ∈ F.U) (Q : Ss → Prop) : (∃ z ∈ F.U, z.num = x.num ∧ Q z.s) ↔ Q x.s :=
  ⟨fun ⟨z, hz, e, hq⟩ => by rw [k.rise.inj hz hx e] at hq; exact hq, fun h => ⟨x, hx, rfl, h⟩⟩
theorem moreE_ok {s : Ss} {n : Int} (h : s.moreE n = 0) : 1 ≤ n ∧ s.wt + n ≤ 1099511627776 := by
  unfold Ss.moreE at h
  split at h
  · exact absurd h (by decide)
  · omega
theorem Fs.Ok.more {F : Fs} (k : F.Ok) {x : Ln} (hx : x ∈ F.U) {n : Int} (h : x.s.moreE n = 0) : (F.more x n).Ok := by
  obtain ⟨hn, hm⟩ := moreE_ok h
  have hw := k.wt x hx
  have hR : ∀ c, c < 8 → ∀ y, y ∈ (F.more x n).R c ↔ y ∈ F.R c ∨ (y = x.num ∧ c = x.s.cls) := fun c hc y => by
    show y ∈ (if x.s.wt = 0 then upR F.R x.s.cls (F.R x.s.cls ++ [x.num]) else F.R) c ↔ _
    by_cases hz : x.s.wt = 0
    · rw [if_pos hz]
      by_cases ec : c = x.s.cls
      · subst ec
        rw [upR_same, List.mem_append, List.mem_singleton]
        simp
      · rw [upR_other _ _ ec]
        simp [ec]
    · rw [if_neg hz]
      constructor
      · exact .inl
      · rintro (h | ⟨rfl, rfl⟩)
        · exact h
        · exact (k.row _ hc _).2 ⟨x, hx, rfl, rfl, by omega⟩
  refine ⟨k.q0, k.q1, by show (upd _ _ _).length ≤ _; rw [upd_len]; exact k.len, upd_rising k.rise _ _, upd_all (fun y hy _ => k.num y hy) k.rise hx (k.num x hx), upd_all (fun y hy _ => k.cls y hy) k.rise hx (k.cls x hx),
    upd_all (fun y hy _ => k.shr y hy) k.rise hx (k.shr x hx), upd_all (fun y hy _ => k.wt y hy) k.rise hx ⟨by show 0 ≤ x.s.wt + n; omega, hm⟩, upd_all (fun y hy _ => k.cr y hy) k.rise hx (k.cr x hx), fun c hc y => ?_, fun c hc => ?_⟩
  · rw [hR c hc y]
    refine Iff.trans ?_ (upd_ex hx y (fun s => s.cls = c ∧ 0 < s.wt)).symm
    by_cases e : y = x.num
    · subst e
      rw [if_pos rfl, k.row c hc x.num, k.one hx (fun s => s.cls = c ∧ 0 < s.wt)]
      show _ ↔ x.s.cls = c ∧ 0 < x.s.wt + n
      constructor
      · rintro (h | h)
        · exact ⟨h.1, by omega⟩
        · exact ⟨h.2.symm, by omega⟩
      · exact fun h => .inr ⟨rfl, h.1.symm⟩
    · rw [if_neg e, k.row c hc y]
      constructor
      · rintro (h | h)
        · exact h
        · exact absurd h.1 e
      · exact .inl
  · show ((if x.s.wt = 0 then upR F.R x.s.cls (F.R x.s.cls ++ [x.num]) else F.R) c).Nodup
    by_cases hz : x.s.wt = 0
    · rw [if_pos hz]
      by_cases ec : c = x.s.cls
      · subst ec
        rw [upR_same, List.nodup_append]
        refine ⟨k.nd _ hc, by simp, fun a ha b hb e => ?_⟩
        rw [List.mem_singleton.1 hb] at e
        subst e
        have := ((k.one hx (fun s => s.cls = x.s.cls ∧ 0 < s.wt)).1 ((k.row _ hc _).1 ha)).2
        omega
      · rw [upR_other _ _ ec]
        exact k.nd c hc
    · rw [if_neg hz]
      exact k.nd c hc
theorem Ln.cr1_bd {F : Fs} (k : F.Ok) {x : Ln} (hx : x ∈ F.U) : 1 ≤ x.cr1 F.q ∧ x.cr1 F.q ≤ F.q * x.s.shr := by
  have h1 := k.cr x hx
  have h2 := k.shr x hx
  unfold Ln.cr1
  split
  · have := Int.mul_le_mul k.q0 h2.1 (by omega) (by have := k.q0; omega)
    exact ⟨by omega, Int.le_refl _⟩
  · exact ⟨by omega, h1.2⟩
/-- Behind a turn, the streams and the rows. -/
theorem next_U {F : Fs} {x : Ln} {most : Int} {B : List Int} : (F.next x most B).U = upd F.U x.num (if (x.aft F.q most).wt = 0 ∨ (x.aft F.q most).cr = 0 then (x.aft F.q most).over else x.aft F.q most) := by
  unfold Fs.next
  split
  · show upd (upd F.U x.num _) x.num _ = _
    rw [upd_upd]
  · rfl
theorem next_R {F : Fs} {x : Ln} {most : Int} {B : List Int} (h0 : 0 ≤ (x.aft F.q most).wt) : ((x.aft F.q most).wt = 0 ∧ (F.next x most B).R = upR F.R x.s.cls B) ∨ (0 < (x.aft F.q most).wt ∧ (x.aft F.q most).cr = 0 ∧ (F.next x most B).R = upR F.R x.s.cls (B ++ [x.num])) ∨
    (0 < (x.aft F.q most).wt ∧ (x.aft F.q most).cr ≠ 0 ∧ (F.next x most B).R = F.R) := by
  unfold Fs.next
  by_cases h1 : (x.aft F.q most).wt = 0
  · refine .inl ⟨h1, ?_⟩
    rw [if_pos (.inl h1)]
    show upR F.R x.s.cls (if 0 < (x.aft F.q most).wt then _ else _) = _
    rw [if_neg (by omega)]
    rfl
  · right
    by_cases h2 : (x.aft F.q most).cr = 0
    · refine .inl ⟨by omega, h2, ?_⟩
      rw [if_pos (.inr h2)]
      show upR F.R x.s.cls (if 0 < (x.aft F.q most).wt then _ else _) = _
      rw [if_pos (by omega)]
      rfl
    · refine .inr ⟨by omega, h2, ?_⟩
      rw [if_neg (by omega)]
theorem Fs.Ok.next {F : Fs} (k : F.Ok) {x : Ln} (hx : x ∈ F.U) {most : Int} (hm : 1 ≤ most) {B : List Int} (hR : F.R x.s.cls = x.num :: B) : (F.next x most B).Ok := by
  have hc := k.cls x hx
  have hw := k.wt x hx
  have hw1 : 0 < x.s.wt := ((k.one hx (fun s => s.cls = x.s.cls ∧ 0 < s.wt)).1 ((k.row _ hc _).1 (by rw [hR]; simp))).2
  obtain ⟨hC1, hC2⟩ := Ln.cr1_bd k hx
  have hT : 1 ≤ x.tk F.q most ∧ x.tk F.q most ≤ x.s.wt ∧ x.tk F.q most ≤ x.cr1 F.q := by unfold Ln.tk; omega
  have hnd := k.nd _ hc
  rw [hR] at hnd
  obtain ⟨hn1, hn2⟩ := List.nodup_cons.1 hnd
  have hU := next_U (F := F) (x := x) (most := most) (B := B)
  have hRR := next_R (F := F) (x := x) (most := most) (B := B) (by show 0 ≤ x.s.wt - x.tk F.q most; omega)
  have hS : ∃ s : Ss, (if (x.aft F.q most).wt = 0 ∨ (x.aft F.q most).cr = 0 then (x.aft F.q most).over else x.aft F.q most) = s ∧ s.cls = x.s.cls ∧ s.shr = x.s.shr ∧ s.wt = x.s.wt - x.tk F.q most ∧ 0 ≤ s.cr ∧ s.cr ≤ F.q * x.s.shr := by
    refine ⟨_, rfl, ?_⟩
    split
    · exact ⟨rfl, rfl, rfl, Int.le_refl _, by show (0 : Int) ≤ _; omega⟩
    · exact ⟨rfl, rfl, rfl, by show 0 ≤ x.cr1 F.q - x.tk F.q most; omega, by show x.cr1 F.q - x.tk F.q most ≤ _; omega⟩
  obtain ⟨s, hs, s1, s2, s3, s4, s5⟩ := hS
  rw [hs] at hU
  have hq : (F.next x most B).q = F.q := by unfold Fs.next; split <;> rfl
  have hmR : ∀ c, c < 8 → ∀ y, y ∈ (F.next x most B).R c ↔ (y = x.num ∧ c = x.s.cls ∧ 0 < s.wt) ∨ (¬ (y = x.num ∧ c = x.s.cls) ∧ y ∈ F.R c) := fun c hcc y => by
    have e3 : (x.aft F.q most).wt = s.wt := s3.symm
    rw [e3] at hRR
    by_cases ec : c = x.s.cls
    · subst ec
      have hB : y ∈ F.R x.s.cls ↔ y = x.num ∨ y ∈ B := by rw [hR]; simp
      rw [hB]
      rcases hRR with ⟨h1, h2⟩ | ⟨h1, _, h2⟩ | ⟨h1, _, h2⟩ <;> rw [h2]
      · rw [upR_same]
        constructor
        · exact fun h => .inr ⟨fun e => hn1 (e.1 ▸ h), .inr h⟩
        · rintro (h | ⟨h, h' | h'⟩)
          · omega
          · exact absurd ⟨h', rfl⟩ h
          · exact h'
      · rw [upR_same, List.mem_append, List.mem_singleton]
        constructor
        · rintro (h | h)
          · exact .inr ⟨fun e => hn1 (e.1 ▸ h), .inr h⟩
          · exact .inl ⟨h, rfl, h1⟩
        · rintro (h | ⟨h, h' | h'⟩)
          · exact .inr h.1
          · exact absurd ⟨h', rfl⟩ h
          · exact .inl h'
      · rw [hB]
        constructor
        · rintro (h | h)
          · exact .inl ⟨h, rfl, h1⟩
          · exact .inr ⟨fun e => hn1 (e.1 ▸ h), .inr h⟩
        · rintro (h | ⟨h, h'⟩)
          · exact .inl h.1
          · exact h'
    · have e4 : (F.next x most B).R c = F.R c := by
        rcases hRR with ⟨_, h2⟩ | ⟨_, _, h2⟩ | ⟨_, _, h2⟩ <;> rw [h2]
        · rw [upR_other _ _ ec]
        · rw [upR_other _ _ ec]
      rw [e4]
      exact ⟨fun h => .inr ⟨fun e => ec e.2, h⟩, fun h => by rcases h with h | h; exact absurd h.2.1 ec; exact h.2⟩
  refine ⟨by rw [hq]; exact k.q0, by rw [hq]; exact k.q1, by rw [hU, upd_len]; exact k.len, by rw [hU]; exact upd_rising k.rise _ _, ?_, ?_, ?_, ?_, ?_, fun c hcc y => ?_, fun c hcc => ?_⟩
  · rw [hU]; exact upd_all (fun y hy _ => k.num y hy) k.rise hx (k.num x hx)
  · rw [hU]; exact upd_all (fun y hy _ => k.cls y hy) k.rise hx (by show s.cls < 8; rw [s1]; exact hc)
  · rw [hU]; exact upd_all (fun y hy _ => k.shr y hy) k.rise hx (by show 1 ≤ s.shr ∧ s.shr ≤ 255; rw [s2]; exact k.shr x hx)
  · rw [hU]; exact upd_all (fun y hy _ => k.wt y hy) k.rise hx (by show 0 ≤ s.wt ∧ s.wt ≤ _; rw [s3]; omega)
  · rw [hU, hq]; exact upd_all (fun y hy _ => k.cr y hy) k.rise hx (by show 0 ≤ s.cr ∧ s.cr ≤ F.q * s.shr; rw [s2]; exact ⟨s4, s5⟩)
  · rw [hmR c hcc y, hU]
    refine Iff.trans ?_ (upd_ex hx y (fun s => s.cls = c ∧ 0 < s.wt)).symm
    by_cases e : y = x.num
    · subst e
      rw [if_pos rfl]
      show _ ↔ s.cls = c ∧ 0 < s.wt
      rw [s1]
      rw [k.row c hcc x.num, k.one hx (fun s => s.cls = c ∧ 0 < s.wt)]
      constructor
      · rintro (h | h)
        · exact ⟨h.2.1.symm, h.2.2⟩
        · exact absurd ⟨rfl, h.2.1.symm⟩ h.1
      · exact fun h => .inl ⟨rfl, h.1.symm, h.2⟩
    · rw [if_neg e, k.row c hcc y]
      constructor
      · rintro (h | h)
        · exact absurd h.1 e
        · exact h.2
      · exact fun h => .inr ⟨fun e' => e e'.1, h⟩
  · have e1 : (upR F.R x.s.cls B c).Nodup := by
      by_cases ec : c = x.s.cls
      · subst ec; rw [upR_same]; exact hn2
      · rw [upR_other _ _ ec]; exact k.nd c hcc
    have e2 : (upR F.R x.s.cls (B ++ [x.num]) c).Nodup := by
      by_cases ec : c = x.s.cls
      · subst ec
        rw [upR_same, List.nodup_append]
        exact ⟨hn2, by simp, fun a ha b hb e => by rw [List.mem_singleton.1 hb] at e; subst e; exact hn1 ha⟩
      · rw [upR_other _ _ ec]; exact k.nd c hcc
    rcases hRR with ⟨_, h2⟩ | ⟨_, _, h2⟩ | ⟨_, _, h2⟩ <;> rw [h2]
    · exact e1
    · exact e2
    · exact k.nd c hcc
end Go.Proofs.Ytjeokomocopjhaa
