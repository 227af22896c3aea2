import Derived.Test.YtjeokomocopjhaaPf0
namespace Go.Proofs.Ytjeokomocopjhaa
open Go.RowKit Go.Maps
set_option maxRecDepth 100000

section
variable {col : Nat → Nat} {w : World} {a p r : Nat} {F : Fs}
theorem PF.fa (h : PF col w a p F) : Fa 0 w p F := by
  obtain ⟨k, b, V, hA, _⟩ := h
  exact ⟨k, Nat.zero_le _, b, V, hA, fun _ _ => Nat.zero_le _⟩
/-! Add. -/
def Fs.addF (F : Fs) (id cls shr : Int) (g : Nat) : Fs := if F.addE id cls shr = 0 then { F with U := ins (fresh id g cls.toNat shr) F.U } else F
theorem pf_add (h : PF col w a p F) {id : Int} (cls shr : Int) (h0 : 0 ≤ id) (h1 : id ≤ 18446744073709551615) :
    Calls Try.prog 9 #[pt p 0, .int .u64 id, .int .i64 cls, .int .i64 shr] w fun e w' => e = .returned (.int .i64 (F.addE id cls shr)) ∧ ∃ col' g, PF col' w' a p (F.addF id cls shr g) ∧ Tn (fun t => t = a) col w col' w' := by
  obtain ⟨k, b, V, hA, hf⟩ := h
  by_cases hE : F.addE id cls shr = 0
  · obtain ⟨_, hc0, _⟩ := addE_ok hE
    obtain ⟨c, rfl⟩ : ∃ c : Nat, cls = (c : Int) := ⟨cls.toNat, by omega⟩
    refine (add_ok hA h0 h1 hE).mono ?_
    rintro e w' ⟨rfl, g, _, m⟩
    have m2 := m.pf hA hf (k.add h0 h1 hE)
    refine ⟨by rw [hE], _, g, ?_, m2.2⟩
    unfold Fs.addF
    rw [if_pos hE, Int.toNat_natCast]
    exact m2.1
  · refine (add_no hA k.len h0 h1 hE).mono ?_
    rintro e w' ⟨rfl, rfl⟩
    refine ⟨rfl, col, 0, ?_, Tn.refl _ _ _⟩
    unfold Fs.addF
    rw [if_neg hE]
    exact ⟨k, b, V, hA, hf⟩
theorem pr_add (h : PR col w a r F) {id : Int} (cls shr : Int) (h0 : 0 ≤ id) (h1 : id ≤ 18446744073709551615) :
    Calls Try.prog 27 #[pt r 0, .int .u64 id, .int .i64 cls, .int .i64 shr] w fun e w' => e = .returned (.int .i64 (F.addE id cls shr)) ∧ ∃ col', (∀ g, PR col' w' a r (F.addF id cls shr g)) ∧ Tn (fun t => t = a) col w col' w' := by
  obtain ⟨k, vL, V, hA, hf⟩ := h
  by_cases hE : F.addE id cls shr = 0
  · obtain ⟨hn, hc0, hc7, hs0, hs1, hl⟩ := addE_ok hE
    obtain ⟨c, rfl⟩ : ∃ c : Nat, cls = (c : Int) := ⟨cls.toNat, by omega⟩
    have hne := fnd_none hn
    refine (radd_ok hA (by rw [sm_len]; exact hl) (fun x hx => by
      obtain ⟨y, hy, rfl⟩ := List.mem_map.1 hx
      exact hne y hy) (by omega) hs0 hs1).mono ?_
    rintro e w' ⟨rfl, vL', i, hi, hd, hb, m⟩
    have hL : ∀ g, (F.U.map Ln.sm).take i ++ (⟨id, c, shr, 0, 0, false⟩ : Sm) :: (F.U.map Ln.sm).drop i = (ins (fresh id g c shr) F.U).map Ln.sm := fun g => by
      rw [ins_at (y := fresh id g c shr) (i := i) k.rise (by simpa using hi) (fun x hx => hd x.sm (by rw [← List.map_drop]; exact List.mem_map_of_mem hx)) (fun x hx h0 => hb x.sm (by rw [List.getElem?_map, hx]; rfl) h0), List.map_append, List.map_cons, List.map_take, List.map_drop]
      rfl
    have m2 := fun g => m.pr (F' := { F with U := ins (fresh id g c shr) F.U }) hA hf (k.add h0 h1 hE) rfl (hL g) rfl
    refine ⟨by rw [hE], _, fun g => ?_, (m2 0).2⟩
    unfold Fs.addF
    rw [if_pos hE, Int.toNat_natCast]
    exact (m2 g).1
  · have e1 := addE_sm F id cls shr
    refine (radd_no hA (by rw [sm_len]; exact k.len) (by rw [e1]; exact hE)).mono ?_
    rintro e w' ⟨rfl, rfl⟩
    refine ⟨by rw [e1], col, fun g => ?_, Tn.refl _ _ _⟩
    unfold Fs.addF
    rw [if_neg hE]
    exact ⟨k, vL, V, hA, hf⟩
/-! Remove. -/
def Fs.remE (F : Fs) (id : Int) : Int := if (fnd F.U id).isSome then 0 else 190
def Fs.remF (F : Fs) (id : Int) : Fs := match fnd F.U id with | some x => F.rem x | none => F
theorem pf_rem (h : PF col w a p F) {id : Int} (h0 : 0 ≤ id) (h1 : id ≤ 18446744073709551615) :
    Calls Try.prog 12 #[pt p 0, .int .u64 id] w fun e w' => e = .returned (.int .i64 (F.remE id)) ∧ ∃ col', PF col' w' a p (F.remF id) ∧ Tn (fun t => t = a) col w col' w' := by
  obtain ⟨k, b, V, hA, hf⟩ := h
  unfold Fs.remE Fs.remF
  cases hx : fnd F.U id with
  | some x =>
    refine (remove_ok hA k hx).mono ?_
    rintro e w' ⟨rfl, V', m⟩
    have m2 := m.pf hA hf (k.rem (fnd_some hx).1)
    exact ⟨rfl, _, m2.1, m2.2⟩
  | none =>
    refine (remove_none hA h0 h1 hx).mono ?_
    rintro e w' ⟨rfl, rfl⟩
    exact ⟨rfl, col, ⟨k, b, V, hA, hf⟩, Tn.refl _ _ _⟩
theorem pr_rem (h : PR col w a r F) (id : Int) :
    Calls Try.prog 28 #[pt r 0, .int .u64 id] w fun e w' => e = .returned (.int .i64 (F.remE id)) ∧ ∃ col', PR col' w' a r (F.remF id) ∧ Tn (fun t => t = a) col w col' w' := by
  obtain ⟨k, vL, V, hA, hf⟩ := h
  have hl : (F.U.map Ln.sm).length ≤ 2048 := by rw [sm_len]; have := k.len; omega
  unfold Fs.remE Fs.remF
  cases hx : fnd F.U id with
  | some x =>
    obtain ⟨hm, rfl⟩ := fnd_some hx
    obtain ⟨A, B, hU⟩ := List.append_of_mem hm
    have hr := k.rise
    have hc := k.cls x hm
    have hrl := k.rlen hc
    have hA2 := hA
    rw [hU, List.map_append, List.map_cons] at hA hl
    rw [hU] at hr
    obtain ⟨s1, s2⟩ := hr.split
    refine (rrem_ok (x := x.sm) hA (fun y hy => by
      obtain ⟨z, hz, rfl⟩ := List.mem_map.1 hy
      exact s1 z hz) hl hc (by show (F.R x.s.cls).length ≤ _; omega)).mono ?_
    rintro e w' ⟨rfl, vL', V', m⟩
    have m2 := m.pr (F' := F.rem x) hA hf (k.rem hm) rfl (by
      show _ = (less F.U x.num).map Ln.sm
      rw [hU, less_at hr, List.map_append]) rfl
    exact ⟨rfl, _, m2.1, m2.2⟩
  | none =>
    have hne := fnd_none hx
    refine (rrem_none hA (fun y hy => by
      obtain ⟨z, hz, rfl⟩ := List.mem_map.1 hy
      exact hne z hz) hl).mono ?_
    rintro e w' ⟨rfl, rfl⟩
    exact ⟨rfl, col, ⟨k, vL, V, hA, hf⟩, Tn.refl _ _ _⟩
/-! More. -/
def Fs.mrE (F : Fs) (id n : Int) : Int := match fnd F.U id with | some x => x.s.moreE n | none => 190
def Fs.mrF (F : Fs) (id n : Int) : Fs := match fnd F.U id with | some x => if x.s.moreE n = 0 then F.more x n else F | none => F
theorem moreE_or (s : Ss) (n : Int) : s.moreE n = 0 ∨ s.moreE n = 193 := by
  unfold Ss.moreE
  split
  · exact .inr rfl
  · exact .inl rfl
theorem pf_more (h : PF col w a p F) {id : Int} (n : Int) (h0 : 0 ≤ id) (h1 : id ≤ 18446744073709551615) :
    Calls Try.prog 10 #[pt p 0, .int .u64 id, .int .i64 n] w fun e w' => e = .returned (.int .i64 (F.mrE id n)) ∧ ∃ col', PF col' w' a p (F.mrF id n) ∧ Tn (fun t => t = a) col w col' w' := by
  obtain ⟨k, b, V, hA, hf⟩ := h
  unfold Fs.mrE Fs.mrF
  cases hx : fnd F.U id with
  | some x =>
    obtain ⟨hm, he⟩ := fnd_some hx
    have hrl := k.rlen (k.cls x hm)
    rcases moreE_or x.s n with hE | hE
    · refine (more_ok hA h0 h1 hx (k.wt x hm).1 (k.wt x hm).2 (k.cls x hm) (by omega) hE).mono ?_
      rintro e w' ⟨rfl, V', m⟩
      have m2 := m.pf hA hf (k.more hm hE)
      exact ⟨by simp only [hE], _, by simp only [hE, if_true]; exact m2.1, m2.2⟩
    · refine (more_no hA h0 h1 hx (k.wt x hm).1 (k.wt x hm).2 (by rw [hE]; decide)).mono ?_
      rintro e w' ⟨rfl, rfl⟩
      exact ⟨by simp only [hE], col, by simp only [hE]; exact ⟨k, b, V, hA, hf⟩, Tn.refl _ _ _⟩
  | none =>
    refine (more_none hA h0 h1 hx).mono ?_
    rintro e w' ⟨rfl, rfl⟩
    exact ⟨rfl, col, ⟨k, b, V, hA, hf⟩, Tn.refl _ _ _⟩
theorem pr_more (h : PR col w a r F) (id n : Int) :
    Calls Try.prog 29 #[pt r 0, .int .u64 id, .int .i64 n] w fun e w' => e = .returned (.int .i64 (F.mrE id n)) ∧ ∃ col', PR col' w' a r (F.mrF id n) ∧ Tn (fun t => t = a) col w col' w' := by
  obtain ⟨k, vL, V, hA, hf⟩ := h
  have hl : (F.U.map Ln.sm).length ≤ 2048 := by rw [sm_len]; have := k.len; omega
  unfold Fs.mrE Fs.mrF
  cases hx : fnd F.U id with
  | some x =>
    obtain ⟨hm, rfl⟩ := fnd_some hx
    obtain ⟨A, B, hU⟩ := List.append_of_mem hm
    have hr := k.rise
    have hc := k.cls x hm
    have hrl := k.rlen hc
    have hA2 := hA
    rw [hU, List.map_append, List.map_cons] at hA hl
    rw [hU] at hr
    obtain ⟨s1, s2⟩ := hr.split
    have hs : ∀ y ∈ A.map Ln.sm, y.num ≠ x.sm.num := fun y hy => by
      obtain ⟨z, hz, rfl⟩ := List.mem_map.1 hy
      exact s1 z hz
    rcases moreE_or x.s n with hE | hE
    · obtain ⟨hn1, hn2⟩ := moreE_ok hE
      refine (rmore_ok (x := x.sm) (n := n) hA hs hl hc (by show (F.R x.s.cls).length ≤ _; omega) (k.wt x hm).1 (k.wt x hm).2 hn1 hn2).mono ?_
      rintro e w' ⟨rfl, V', m⟩
      have m2 := m.pr (F' := F.more x n) hA hf (k.more hm hE) rfl (by
        show _ = (upd F.U x.num (x.s.plus n)).map Ln.sm
        rw [hU, upd_at hr, List.map_append, List.map_cons]
        rfl) rfl
      exact ⟨by simp only [hE], _, by simp only [hE, if_true]; exact m2.1, m2.2⟩
    · refine (rmore_no (x := x.sm) (n := n) hA hs hl (k.wt x hm).1 (k.wt x hm).2 (by
        unfold Ss.moreE at hE
        split at hE
        · assumption
        · cases hE)).mono ?_
      rintro e w' ⟨rfl, rfl⟩
      exact ⟨by simp only [hE], col, by simp only [hE]; exact ⟨k, vL, V, hA2, hf⟩, Tn.refl _ _ _⟩
  | none =>
    have hne := fnd_none hx
    refine (rmore_none hA n (fun y hy => by
      obtain ⟨z, hz, rfl⟩ := List.mem_map.1 hy
      exact hne z hz) hl).mono ?_
    rintro e w' ⟨rfl, rfl⟩
    exact ⟨rfl, col, ⟨k, vL, V, hA, hf⟩, Tn.refl _ _ _⟩
/-! Next. -/
theorem pf_next (h : PF col w a p F) {most : Int} (hm : 1 ≤ most) {x : Ln} {B : List Int} (t : F.Turn x B) :
    Calls Try.prog 11 #[pt p 0, .int .i64 most] w fun e w' => e = .returned (.tuple #[.agg #[.int .u64 x.num, .int .i64 (x.tk F.q most)], .bool true]) ∧ ∃ col', PF col' w' a p (F.next x most B) ∧ Tn (fun t => t = a) col w col' w' := by
  obtain ⟨k, b, V, hA, hf⟩ := h
  have hx := t.mem
  have hl := k.rlen (k.cls x hx)
  have hw : 0 < x.s.wt := ((k.one hx (fun s => s.cls = x.s.cls ∧ 0 < s.wt)).1 ((k.row _ (k.cls x hx) _).1 (by rw [t.row]; simp))).2
  refine (next_some hA hm hx (k.cls x hx) t.low t.row (by omega) (k.num x hx).1 (k.num x hx).2 k.q0 k.q1 (k.shr x hx).1 (k.shr x hx).2 hw (k.wt x hx).2 (k.cr' hx).1 (k.cr' hx).2).mono ?_
  rintro e w' ⟨rfl, V', m⟩
  have m2 := m.pf hA hf (k.next hx hm t.row)
  exact ⟨rfl, _, m2.1, m2.2⟩
theorem pr_next (h : PR col w a r F) {most : Int} (hm : 1 ≤ most) {x : Ln} {T : List Int} (t : F.Turn x T) :
    Calls Try.prog 30 #[pt r 0, .int .i64 most] w fun e w' => e = .returned (.tuple #[.agg #[.int .u64 x.num, .int .i64 (x.tk F.q most)], .bool true]) ∧ ∃ col', PR col' w' a r (F.next x most T) ∧ Tn (fun t => t = a) col w col' w' := by
  obtain ⟨k, vL, V, hA, hf⟩ := h
  have hl : (F.U.map Ln.sm).length ≤ 2048 := by rw [sm_len]; have := k.len; omega
  have hx := t.mem
  have hc := k.cls x hx
  have hrl := k.rlen hc
  have hnd := k.nd _ hc
  rw [t.row] at hrl hnd
  have hw : 0 < x.s.wt := ((k.one hx (fun s => s.cls = x.s.cls ∧ 0 < s.wt)).1 ((k.row _ hc _).1 (by rw [t.row]; simp))).2
  obtain ⟨A, B, hU⟩ := List.append_of_mem hx
  have hr := k.rise
  rw [hU, List.map_append, List.map_cons] at hA hl
  rw [hU] at hr
  obtain ⟨s1, s2⟩ := hr.split
  refine (rnext_some (x := x.sm) hA (fun y hy => by
      obtain ⟨z, hz, rfl⟩ := List.mem_map.1 hy
      exact s1 z hz) hl hc t.low t.row (List.nodup_cons.1 hnd).1 (by simp only [List.length_cons] at hrl; omega) rfl hm k.q0 k.q1 (k.shr x hx).1 (k.shr x hx).2 hw (k.wt x hx).2 (k.cr' hx).1 (k.cr' hx).2).mono ?_
  rintro e w' ⟨rfl, V', m⟩
  have hq : (F.next x most T).q = F.q := by unfold Fs.next; split <;> rfl
  have m2 := m.pr (F' := F.next x most T) hA hf (k.next hx hm t.row) hq.symm (by
    rw [next_U, hU, upd_at hr, List.map_append, List.map_cons, sm_next]) (R_next most T)
  exact ⟨rfl, _, m2.1, m2.2⟩
theorem pr_next_none (h : PR col w a r F) {most : Int} (hE : (∀ c, c < 8 → F.R c = []) ∨ most < 1) :
    Calls Try.prog 30 #[pt r 0, .int .i64 most] w fun e w' => e = .returned (.tuple #[.agg #[.int .u64 0, .int .i64 0], .bool false]) ∧ Below w.heap.size w w' := by
  obtain ⟨k, vL, V, hA, hf⟩ := h
  exact rnext_none hA hE
/-! The looks. -/
theorem pr_view (h : PR col w a r F) : Calls Try.prog 18 #[pt r 0] w fun e w' => ∃ v, e = .returned v ∧ w'.ownsRow w.heap.size 44 5 v F.U.length (flatI F.U) ∧ Below w.heap.size w w' := by
  obtain ⟨k, vL, V, hA, hf⟩ := h
  have := rview_any hA (by rw [sm_len]; exact k.len)
  rw [sm_len, flatV_sm] at this
  exact this
theorem pr_waiting (h : PR col w a r F) : Calls Try.prog 19 #[pt r 0] w fun e w' => e = .returned (.int .i64 F.waits) ∧ Below w.heap.size w w' := by
  obtain ⟨k, vL, V, hA, hf⟩ := h
  have := rwaiting_any hA (fun y hy => by
    obtain ⟨z, hz, rfl⟩ := List.mem_map.1 hy
    exact k.wt z hz) (by rw [sm_len]; exact k.len)
  rw [sumS_sm] at this
  exact this
end
end Go.Proofs.Ytjeokomocopjhaa
