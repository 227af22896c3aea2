import Derived.Test.YtjeokomocopjhaaFa11
namespace Go.Proofs.Ytjeokomocopjhaa
open Go.RowKit Go.Maps
set_option maxRecDepth 100000

/-- A Fair whose memory is new since s0. -/
def Fa (s0 : Nat) (w : World) (p : Nat) (F : Fs) : Prop := F.Ok ∧ s0 ≤ w.heap.size ∧ ∃ b V, FaAt w p b V F ∧ ∀ k, Foot p b V F k → s0 ≤ k
/-- A turn of its memory: all below s0 stays, and rows of other types. -/
structure Mo (s0 : Nat) (w w' : World) : Prop where
  below : Below s0 w w'
  row : ∀ g c t, Row w g c t → t ≠ 57 → t ≠ 44 → t ≠ 26 → Row w' g c t
theorem Mo.trans {s0 : Nat} {w w' w'' : World} (h : Mo s0 w w') (k : Mo s0 w' w'') : Mo s0 w w'' :=
  ⟨h.below.trans k.below, fun g c t hr h1 h2 h3 => k.row g c t (h.row g c t hr h1 h2 h3) h1 h2 h3⟩
theorem Mo.of_below {s0 : Nat} {w w' : World} (h : Below w.heap.size w w') (hs : s0 ≤ w.heap.size) : Mo s0 w w' :=
  ⟨h.mono hs, fun _ _ _ hr _ _ _ => hr.kept h hr.lt⟩
theorem Fa.size {s0 p : Nat} {w : World} {F : Fs} (h : Fa s0 w p F) : s0 ≤ w.heap.size := h.2.1
theorem Fa.below {s0 p : Nat} {w w' : World} {F : Fs} (h : Fa s0 w p F) (hb : Below w.heap.size w w') : Fa s0 w' p F := by
  obtain ⟨k, hs, b, V, hA, hf⟩ := h
  exact ⟨k, Nat.le_trans hs hb.size, b, V, hA.below hb, hf⟩
theorem Fa.less {s0 s1 p : Nat} {w : World} {F : Fs} (h : Fa s0 w p F) (hs : s1 ≤ s0) : Fa s1 w p F := by
  obtain ⟨k, hz, b, V, hA, hf⟩ := h
  exact ⟨k, Nat.le_trans hs hz, b, V, hA, fun k hk => Nat.le_trans hs (hf k hk)⟩
theorem Mv.fa {s0 p b : Nat} {V V' : Nat → Value} {F F' : Fs} {w w' : World} (m : Mv p b V F w V' F' w') (h : FaAt w p b V F) (hs : s0 ≤ w.heap.size) (hf : ∀ k, Foot p b V F k → s0 ≤ k) (k : F'.Ok) : Fa s0 w' p F' ∧ Mo s0 w w' := by
  refine ⟨⟨k, Nat.le_trans hs m.fr.size, b, V', m.at_, fun j hj => ?_⟩, m.fr.below hf hs, fun g c t hr h1 h2 h3 => m.fr.row hr (h.other hr.at_ h1 h2 h3)⟩
  rcases m.gr j hj with e | e
  · exact hf j e
  · exact Nat.le_trans hs e
/-- A row that stays, whatever the Fair does. -/
theorem fa_new (w : World) (quantum : Int) : Calls Try.prog 7 #[.int .i64 quantum] w fun e w' => ∃ p, e = .returned (pt p 0) ∧ Fa w.heap.size w' p (Fs.zero (qN quantum)) ∧ Below w.heap.size w w' :=
  (new_any w quantum).mono (fun _ _ ⟨p, b, V, he, hA, hb, hf⟩ => ⟨p, he, ⟨zero_ok quantum, hb.size, b, V, hA, hf⟩, hb⟩)
theorem fa_add {s0 p : Nat} {w : World} {F : Fs} (h : Fa s0 w p F) {id shr : Int} {cls : Nat} (h0 : 0 ≤ id) (h1 : id ≤ 18446744073709551615) (hE : F.addE id cls shr = 0) :
    Calls Try.prog 9 #[pt p 0, .int .u64 id, .int .i64 cls, .int .i64 shr] w fun e w' => e = .returned (.int .i64 0) ∧ ∃ g, Fa s0 w' p { F with U := ins (fresh id g cls shr) F.U } ∧ Mo s0 w w' := by
  obtain ⟨k, hs, b, V, hA, hf⟩ := h
  refine (add_ok hA h0 h1 hE).mono ?_
  rintro e w' ⟨rfl, g, _, m⟩
  exact ⟨rfl, g, m.fa hA hs hf (k.add h0 h1 hE)⟩
theorem fa_add_no {s0 p : Nat} {w : World} {F : Fs} (h : Fa s0 w p F) {id cls shr : Int} (h0 : 0 ≤ id) (h1 : id ≤ 18446744073709551615) (hE : F.addE id cls shr ≠ 0) :
    Calls Try.prog 9 #[pt p 0, .int .u64 id, .int .i64 cls, .int .i64 shr] w fun e w' => e = .returned (.int .i64 (F.addE id cls shr)) ∧ w' = w := by
  obtain ⟨k, hs, b, V, hA, hf⟩ := h
  exact add_no hA k.len h0 h1 hE
theorem fa_more {s0 p : Nat} {w : World} {F : Fs} (h : Fa s0 w p F) {id n : Int} {x : Ln} (hx : fnd F.U id = some x) (hE : x.s.moreE n = 0) :
    Calls Try.prog 10 #[pt p 0, .int .u64 id, .int .i64 n] w fun e w' => e = .returned (.int .i64 0) ∧ Fa s0 w' p (F.more x n) ∧ Mo s0 w w' := by
  obtain ⟨k, hs, b, V, hA, hf⟩ := h
  obtain ⟨hm, he⟩ := fnd_some hx
  subst he
  have := k.rlen (k.cls x hm)
  refine (more_ok hA (k.num x hm).1 (k.num x hm).2 hx (k.wt x hm).1 (k.wt x hm).2 (k.cls x hm) (by omega) hE).mono ?_
  rintro e w' ⟨rfl, V', m⟩
  exact ⟨rfl, m.fa hA hs hf (k.more hm hE)⟩
theorem fa_more_no {s0 p : Nat} {w : World} {F : Fs} (h : Fa s0 w p F) {id n : Int} {x : Ln} (hx : fnd F.U id = some x) (hE : x.s.moreE n ≠ 0) :
    Calls Try.prog 10 #[pt p 0, .int .u64 id, .int .i64 n] w fun e w' => e = .returned (.int .i64 193) ∧ w' = w := by
  obtain ⟨k, hs, b, V, hA, hf⟩ := h
  obtain ⟨hm, he⟩ := fnd_some hx
  subst he
  exact more_no hA (k.num x hm).1 (k.num x hm).2 hx (k.wt x hm).1 (k.wt x hm).2 hE
theorem fa_more_none {s0 p : Nat} {w : World} {F : Fs} (h : Fa s0 w p F) {id n : Int} (h0 : 0 ≤ id) (h1 : id ≤ 18446744073709551615) (hx : fnd F.U id = none) :
    Calls Try.prog 10 #[pt p 0, .int .u64 id, .int .i64 n] w fun e w' => e = .returned (.int .i64 190) ∧ w' = w := by
  obtain ⟨k, hs, b, V, hA, hf⟩ := h
  exact more_none hA h0 h1 hx
/-- Whose turn it is. -/
structure Fs.Turn (F : Fs) (x : Ln) (B : List Int) : Prop where
  mem : x ∈ F.U
  low : ∀ k, k < x.s.cls → F.R k = []
  row : F.R x.s.cls = x.num :: B
theorem Fs.Ok.turn {F : Fs} (k : F.Ok) {c : Nat} (hc : c < 8) (hE : ∀ k, k < c → F.R k = []) {y : Int} {B : List Int} (hR : F.R c = y :: B) : ∃ x, F.Turn x B ∧ x.num = y ∧ x.s.cls = c := by
  obtain ⟨x, hx, e, e2, _⟩ := (k.row c hc y).1 (by rw [hR]; simp)
  exact ⟨x, ⟨hx, by rw [e2]; exact hE, by rw [e2, hR, e]⟩, e, e2⟩
theorem Fs.turn_or {F : Fs} (k : F.Ok) : (∀ c, c < 8 → F.R c = []) ∨ ∃ x B, F.Turn x B := by
  have h : ∀ n, n ≤ 8 → (∀ c, c < n → F.R c = []) ∨ ∃ x B, F.Turn x B := fun n => by
    induction n with
    | zero => exact fun _ => .inl (fun c hc => absurd hc (Nat.not_lt_zero _))
    | succ n ih =>
      intro hn
      rcases ih (by omega) with h | h
      · cases hR : F.R n with
        | nil => exact .inl (fun c hc => by
            by_cases e : c = n
            · rw [e, hR]
            · exact h c (by omega))
        | cons y B =>
          obtain ⟨x, ht, _⟩ := k.turn (by omega) h hR
          exact .inr ⟨x, B, ht⟩
      · exact .inr h
  exact h 8 (Nat.le_refl _)
theorem fa_next {s0 p : Nat} {w : World} {F : Fs} (h : Fa s0 w p F) {most : Int} (hm : 1 ≤ most) {x : Ln} {B : List Int} (t : F.Turn x B) :
    Calls Try.prog 11 #[pt p 0, .int .i64 most] w fun e w' => e = .returned (.tuple #[.agg #[.int .u64 x.num, .int .i64 (x.tk F.q most)], .bool true]) ∧ Fa s0 w' p (F.next x most B) ∧ Mo s0 w w' := by
  obtain ⟨k, hs, b, V, hA, hf⟩ := h
  have hx := t.mem
  have hl := k.rlen (k.cls x hx)
  have hw : 0 < x.s.wt := ((k.one hx (fun s => s.cls = x.s.cls ∧ 0 < s.wt)).1 ((k.row _ (k.cls x hx) _).1 (by rw [t.row]; simp))).2
  refine (next_some hA hm hx (k.cls x hx) t.low t.row (by omega) (k.num x hx).1 (k.num x hx).2 k.q0 k.q1 (k.shr x hx).1 (k.shr x hx).2 hw (k.wt x hx).2 (k.cr' hx).1 (k.cr' hx).2).mono ?_
  rintro e w' ⟨rfl, V', m⟩
  exact ⟨rfl, m.fa hA hs hf (k.next hx hm t.row)⟩
theorem fa_next_none {s0 p : Nat} {w : World} {F : Fs} (h : Fa s0 w p F) {most : Int} (hE : (∀ c, c < 8 → F.R c = []) ∨ most < 1) :
    Calls Try.prog 11 #[pt p 0, .int .i64 most] w fun e w' => e = .returned (.tuple #[.agg #[.int .u64 0, .int .i64 0], .bool false]) ∧ Below w.heap.size w w' := by
  obtain ⟨k, hs, b, V, hA, hf⟩ := h
  refine next_none hA ?_
  rcases F.turn_or k with h1 | ⟨x, B, t⟩
  · exact .inl h1
  · rcases hE with h1 | h1
    · exact .inl h1
    · refine .inr ⟨h1, fun w' hb => (first_some (hA.below hb) (k.cls x t.mem) t.low t.row (k.num x t.mem).1 (k.num x t.mem).2 (fnd_of k.rise t.mem)).mono ?_⟩
      rintro e w'' ⟨rfl, q, rfl⟩
      exact ⟨x.g, q, rfl, rfl⟩
end Go.Proofs.Ytjeokomocopjhaa
