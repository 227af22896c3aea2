import Derived.Test.YtfhjiggaacgncaaDoorJg0
namespace Go.Proofs.YtfhjiggaacgncaaDoor
open Go.RowKit Go.Maps Go.Sort
set_option maxRecDepth 100000

theorem m_life (r : Value) (w : World) : (method 244 22 r "braid/journal.life").run Tryd.prog w = .ok (97, r) w := by kernel_rfl
theorem m_view (r : Value) (w : World) : (method 244 22 r "braid/journal.view").run Tryd.prog w = .ok (98, r) w := by kernel_rfl
theorem m_put (r : Value) (w : World) : (method 244 22 r "braid/journal.put").run Tryd.prog w = .ok (66, r) w := by kernel_rfl
theorem m_sync (r : Value) (w : World) : (method 244 22 r "Sync").run Tryd.prog w = .ok (21, r) w := by kernel_rfl
set_option maxHeartbeats 1000000 in
theorem dead_any {w : World} {q : Nat} {G : Lg} {D : Dk} (h : LgAt w q G) (hd : DkAt w G.p D) : Calls Tryd.prog 41 #[pt q 0] w fun e w' => e = .returned (.bool (decide (D.lives ≠ G.born))) ∧ Below w.heap.size w w' := by
  have c0 := h.row.cell 0 _ rfl
  have c1 := h.row.cell 1 _ rfl
  have HL : Hid (∀ n, Calls Tryd.prog 97 #[pt G.p 0] (w.drewN n) fun e w' => e = .returned (.int .i64 D.lives) ∧ w' = w.drewN n) := fun n => life_any (hd.kept (below_drewN (Below.refl _ _) n))
  have hm := m_life
  clear h hd
  generalize D.lives = l at *
  generalize G.born = b at *
  generalize G.p = p at *
  by_cases hlb : l = b
  · subst hlb
    have hs : decide (l ≠ l) = false := by simp
    rw [hs]
    go_enter Tryd.func41, Tryd.ntmps41
    go_upto_region 1 with fail
    go_quiet ((go_at_call 97; exact Calls.quiet_of_same (HL.out _)))
    go_wp2
    go_ret
    exact ⟨by first | rfl | simp, below_drewN (Below.refl _ _) _⟩
  · rw [decide_eq_true hlb]
    go_enter Tryd.func41, Tryd.ntmps41
    go_upto_region 1 with fail
    go_quiet ((go_at_call 97; exact Calls.quiet_of_same (HL.out _)))
    go_wp2
    go_ret
    exact ⟨by first | rfl | simp [hlb], below_drewN (Below.refl _ _) _⟩
def Lg.takesE (G : Lg) (lives : Int) (k : BitVec 8) (n : Nat) : Int := if lives ≠ G.born then 215 else if k = 0#8 then 212 else if 65536 < n then 213 else if G.room < n then 214 else 0
set_option maxHeartbeats 1000000 in
theorem takes_any {w : World} {q : Nat} {G : Lg} {D : Dk} (h : LgAt w q G) (hd : DkAt w G.p D) (hs : G.size ≤ 16777216) (he : G.end_ ≤ G.size) (k : BitVec 8) (n : Nat) : Calls Tryd.prog 37 #[pt q 0, .int .u8 (ub k), .int .i64 (n : Nat)] w fun e w' => e = .returned (.int .i64 (G.takesE D.lives k n)) ∧ Below w.heap.size w w' := by
  have HD := hid (dead_any h hd)
  have HR : Hid (∀ w1, Below w.heap.size w w1 → Calls Tryd.prog 18 #[pt q 0] w1 fun e w' => e = .returned (.int .i64 G.room) ∧ Below w1.heap.size w1 w') := fun w1 hb => room_any (h.kept hb) hs he
  clear h hd hs he
  by_cases h1 : D.lives ≠ G.born
  · have e : G.takesE D.lives k n = 215 := if_pos h1
    rw [e]
    rw [decide_eq_true h1] at HD
    clear e h1 HR
    go_enter Tryd.func37, Tryd.ntmps37
    go_wp2_with (go_at_call 41; refine HD.out.mono ?_; rintro e w1 ⟨rfl, hb⟩; have HB := hid hb; clear hb)
    go_ret
    exact ⟨rfl, HB.out⟩
  · have hE : G.takesE D.lives k n = if k = 0#8 then 212 else if 65536 < n then 213 else if G.room < n then 214 else 0 := if_neg h1
    rw [hE]
    rw [decide_eq_false h1] at HD
    clear hE h1
    by_cases h2 : k = 0#8
    · rw [if_pos h2]
      have hk0 : ub k = 0 := by rw [h2]; decide
      rw [hk0]
      clear h2 hk0 HR
      go_enter Tryd.func37, Tryd.ntmps37
      go_wp2_with (go_at_call 41; refine HD.out.mono ?_; rintro e w1 ⟨rfl, hb⟩; have HB := hid hb; clear hb)
      go_ret
      exact ⟨rfl, HB.out⟩
    · rw [if_neg h2]
      have hku : ¬ ub k = 0 := fun e => h2 (ub_inj (by rw [e]; decide))
      clear h2
      by_cases h3 : 65536 < n
      · rw [if_pos h3]
        have h3' : (65536 : Int) < n := by omega
        clear h3 HR
        go_enter Tryd.func37, Tryd.ntmps37
        go_wp2_with (go_at_call 41; refine HD.out.mono ?_; rintro e w1 ⟨rfl, hb⟩; have HB := hid hb; clear hb)
        go_ret
        exact ⟨rfl, HB.out⟩
      · rw [if_neg h3]
        have h3' : ¬ (65536 : Int) < n := by omega
        clear h3
        by_cases h4 : G.room < n
        · rw [if_pos h4]
          generalize G.room = r at *
          go_enter Tryd.func37, Tryd.ntmps37
          go_wp2_with (first | (go_at_call 41; refine HD.out.mono ?_; rintro e w1 ⟨rfl, hb⟩; have HB := hid hb; have HR2 := hid (HR.out w1 hb); clear hb) | (go_at_call 18; refine HR2.out.mono ?_; rintro e w2 ⟨rfl, hb2⟩; have HB2 := hid hb2; clear hb2))
          go_ret
          exact ⟨rfl, below_two HB.out HB2.out (Nat.le_refl _)⟩
        · rw [if_neg h4]
          generalize G.room = r at *
          go_enter Tryd.func37, Tryd.ntmps37
          go_wp2_with (first | (go_at_call 41; refine HD.out.mono ?_; rintro e w1 ⟨rfl, hb⟩; have HB := hid hb; have HR2 := hid (HR.out w1 hb); clear hb) | (go_at_call 18; refine HR2.out.mono ?_; rintro e w2 ⟨rfl, hb2⟩; have HB2 := hid hb2; clear hb2))
          go_ret
          exact ⟨rfl, below_two HB.out HB2.out (Nat.le_refl _)⟩
set_option maxHeartbeats 1000000 in
/-- Sync of a log that lives. -/
theorem lsync_ok {w : World} {q : Nat} {G : Lg} {D : Dk} (h : LgAt w q G) (hd : DkAt w G.p D) (hl : D.lives = G.born) (hk : D.Ok) (hp : ∀ x ∈ D.W, 1 ≤ x.bs.length) (hW : D.W.length ≤ 1099511627776) :
    Calls Tryd.prog 22 #[pt q 0] w fun e w' => e = .returned (.int .i64 0) ∧ DkAt w' G.p (D.calm (layAll D.S D.W) D.N) ∧ Fr (fun k => k = G.p ∨ k = D.gs) w w' := by
  have hD := dead_any h hd
  rw [decide_eq_false (fun e => e hl)] at hD
  have HD := hid hD
  have c0 := h.row.cell 0 _ rfl
  have HC : Hid (∀ w1, Below w.heap.size w w1 → Calls Tryd.prog 21 #[pt G.p 0] w1 fun e w' => e = .returned (.tuple #[]) ∧ DkAt w' G.p (D.calm (layAll D.S D.W) D.N) ∧ Fr (fun k => k = G.p ∨ k = D.gs) w w') := fun w1 hb => by
    refine (dsync_any (hd.kept hb) hk hp hW).mono ?_
    rintro e w' ⟨rfl, h1, h2⟩
    exact ⟨rfl, h1, (Fr.of_below (S := fun k => k = G.p ∨ k = D.gs) hb (Nat.le_refl _)).trans h2 (fun _ e => .inl e)⟩
  have hm := m_sync
  clear h hd hl hk hp hW hD
  go_enter Tryd.func22, Tryd.ntmps22
  go_wp2_with (first | (go_at_call 41; refine HD.out.mono ?_; rintro e w1 ⟨rfl, hb⟩; have c1 := cell_kept hb c0; have HC2 := hid (HC.out w1 hb); clear hb) | (go_at_call 21; refine HC2.out.mono ?_; rintro e w2 ⟨rfl, h2⟩; have HX := hid h2; clear h2))
  go_ret
  exact ⟨rfl, HX.out⟩
end Go.Proofs.YtfhjiggaacgncaaDoor
