import Derived.Test.YtjeokomocopjhaaFa13
namespace Go.Proofs.Ytjeokomocopjhaa
open Go.RowKit Go.Maps
set_option maxRecDepth 100000

/-- A stream is taken out, of its row too. -/
def Fs.rem (F : Fs) (x : Ln) : Fs := { F with U := less F.U x.num, R := upR F.R x.s.cls ((F.R x.s.cls).filter fun y => decide (y ≠ x.num)) }
theorem upR_id {α : Type} (R : Nat → α) (c : Nat) : upR R c (R c) = R := by
  funext k
  unfold upR
  split
  · rename_i h; rw [h]
  · rfl
theorem Fs.Ok.rem {F : Fs} (k : F.Ok) {x : Ln} (hx : x ∈ F.U) : (F.rem x).Ok := by
  refine ⟨k.q0, k.q1, Nat.le_trans (List.length_filter_le _ _) k.len, less_rising k.rise _, fun y hy => k.num y (mem_less.1 hy).1, fun y hy => k.cls y (mem_less.1 hy).1, fun y hy => k.shr y (mem_less.1 hy).1, fun y hy => k.wt y (mem_less.1 hy).1, fun y hy => k.cr y (mem_less.1 hy).1, fun c hc y => ?_, fun c hc => ?_⟩
  · have e : y ∈ (F.rem x).R c ↔ y ∈ F.R c ∧ ¬ (y = x.num ∧ c = x.s.cls) := by
      show y ∈ upR F.R x.s.cls _ c ↔ _
      by_cases ec : c = x.s.cls
      · subst ec
        rw [upR_same, List.mem_filter]
        simp
      · rw [upR_other _ _ ec]
        exact ⟨fun h => ⟨h, fun e => ec e.2⟩, fun h => h.1⟩
    rw [e, k.row c hc y]
    constructor
    · rintro ⟨⟨z, hz, e1, e2, e3⟩, hn⟩
      refine ⟨z, mem_less.2 ⟨hz, fun e4 => hn ⟨by rw [← e1, e4], ?_⟩⟩, e1, e2, e3⟩
      rw [← e2, k.rise.inj hz hx e4]
    · rintro ⟨z, hz, e1, e2, e3⟩
      exact ⟨⟨z, (mem_less.1 hz).1, e1, e2, e3⟩, fun e4 => (mem_less.1 hz).2 (by rw [e1, e4.1])⟩
  · show (upR F.R x.s.cls _ c).Nodup
    by_cases ec : c = x.s.cls
    · subst ec
      rw [upR_same]
      exact (k.nd _ hc).filter _
    · rw [upR_other _ _ ec]
      exact k.nd c hc
theorem filter_out {A B : List Int} {y : Int} (h : (A ++ y :: B).Nodup) : (A ++ y :: B).filter (fun z => decide (z ≠ y)) = A ++ B := by
  rw [List.nodup_append] at h
  obtain ⟨_, h2, h3⟩ := h
  obtain ⟨h4, _⟩ := List.nodup_cons.1 h2
  rw [List.filter_append, List.filter_cons_of_neg (by simp)]
  rw [List.filter_eq_self.2 (fun z hz => by simpa using h3 z hz y (by simp)), List.filter_eq_self.2 (fun z hz => by simp; intro e; exact h4 (e ▸ hz))]
set_option maxHeartbeats 2000000 in
theorem remove_none {w : World} {p b : Nat} {V : Nat → Value} {F : Fs} (h : FaAt w p b V F) {id : Int} (h0 : 0 ≤ id) (h1 : id ≤ 18446744073709551615) (hf : fnd F.U id = none) :
    Calls Try.prog 12 #[pt p 0, .int .u64 id] w fun e w' => e = .returned (.int .i64 190) ∧ w' = w := by
  have hL := look_any h.map h0 h1
  have c1 := h.row.cell 1 _ rfl
  rw [hf] at hL
  simp only [Option.map_none, ptrV] at hL
  clear h hf
  go_enter Try.func12, Try.ntmps12
  go_wp2_with fail
  go_ret
  exact ⟨rfl, rfl⟩
set_option maxHeartbeats 2000000 in
theorem remove_ok {w : World} {p b : Nat} {V : Nat → Value} {F : Fs} (h : FaAt w p b V F) (k : F.Ok) {id : Int} {x : Ln} (hf : fnd F.U id = some x) :
    Calls Try.prog 12 #[pt p 0, .int .u64 id] w fun e w' => e = .returned (.int .i64 0) ∧ ∃ V', Mv p b V F w V' (F.rem x) w' := by
  obtain ⟨hx, he⟩ := fnd_some hf
  subst he
  have h0 := (k.num x hx).1
  have h1 := (k.num x hx).2
  have hL := look_any h.map h0 h1
  have c1 := h.row.cell 1 _ rfl
  rw [hf] at hL
  simp only [Option.map_some, ptrV] at hL
  have hn := eq58 w x.g
  have HK := hid2 (key26 h0 h1)
  have HH := hid2 h
  have HX := hid2 hx
  have HO := hid2 k
  have HLV : Hid (∀ W, Fr (fun q => q = b) w W → FaAt W p b V { F with U := less F.U x.num } → Calls Try.prog 23 #[pt p 0, pt x.g 0] W fun e w' => e = .returned (.tuple #[]) ∧ ∃ V', Mv p b V { F with U := less F.U x.num } W V' (F.rem x) w') := fun W hF hW => by
    have hrow := hF.row (h.rows x hx) (h.gb hx)
    have hl := k.rlen (k.cls x hx)
    by_cases hm : x.num ∈ F.R x.s.cls
    · obtain ⟨A, B, hR⟩ := List.append_of_mem hm
      have hnd := k.nd _ (k.cls x hx)
      rw [hR] at hnd
      have hA : x.num ∉ A := fun e => by
        rw [List.nodup_append] at hnd
        exact hnd.2.2 _ e _ (by simp) rfl
      refine (leave_hit hW hrow (k.cls x hx) (show (F.R x.s.cls).length ≤ _ by omega) (show F.R x.s.cls = _ from hR) hA).mono ?_
      rintro e w' ⟨rfl, V', m⟩
      refine ⟨rfl, V', ?_⟩
      unfold Fs.rem
      rw [hR, filter_out hnd]
      exact m
    · refine (leave_miss hW hrow (k.cls x hx) (show (F.R x.s.cls).length ≤ _ by omega) (show x.num ∉ F.R x.s.cls from hm)).mono ?_
      rintro e w' ⟨rfl, q, rfl⟩
      refine ⟨rfl, V, ?_⟩
      unfold Fs.rem
      rw [List.filter_eq_self.2 (fun z hz => by simp; intro e; exact hm (e ▸ hz)), upR_id]
      exact (Mv.refl hW).drewN q
  clear h k hf hx h0 h1
  go_enter Try.func12, Try.ntmps12
  go_upto_region 5 with (at_delete; refine wpList_delete_own _ rfl _ _ 53 26 rfl 58 law26 Try.underlying53 readP b F.U.length (UD F.U) rfl HH.out.map _ _ rfl HK.out ?_; intro w2 hown hturn; have HOW := hid2 hown; have HT := hid2 hturn; clear hown hturn)
  have hF : Fr (fun q => q = b) w w2 := Fr.of_grown HT.out.grown (fun q e => .inl (by simpa using e.symm))
  have hA2 := HH.out.died HOW.out HT.out.grown
  have hM2 : Mv p b V F w V { F with U := less F.U x.num } w2 := ⟨hA2, hF.wider (fun q e => .inr (.inl e)), fun q hq => .inl (by
    rcases hq with e | e | ⟨y, hy, rfl⟩ | e
    · exact .inl e
    · exact .inr (.inl e)
    · exact .inr (.inr (.inl ⟨y, (mem_less.1 hy).1, rfl⟩))
    · exact .inr (.inr (.inr e)))⟩
  have HM2 := hid2 hM2
  have HLL := hid2 (HLV.out w2 hF hA2)
  clear hF hA2 hM2 HLV
  go_wp2_with (go_at_call 23; refine HLL.out.mono ?_; rintro e w3 ⟨rfl, V3, hM3⟩; have HM3 := hid2 (HM2.out.trans hM3); clear hM3)
  go_ret
  exact ⟨rfl, V3, HM3.out⟩
theorem fa_remove {s0 p : Nat} {w : World} {F : Fs} (h : Fa s0 w p F) {id : Int} {x : Ln} (hx : fnd F.U id = some x) : Calls Try.prog 12 #[pt p 0, .int .u64 id] w fun e w' => e = .returned (.int .i64 0) ∧ Fa s0 w' p (F.rem x) ∧ Mo s0 w w' := by
  obtain ⟨k, hs, b, V, hA, hf⟩ := h
  refine (remove_ok hA k hx).mono ?_
  rintro e w' ⟨rfl, V', m⟩
  exact ⟨rfl, m.fa hA hs hf (k.rem (fnd_some hx).1)⟩
theorem fa_remove_none {s0 p : Nat} {w : World} {F : Fs} (h : Fa s0 w p F) {id : Int} (h0 : 0 ≤ id) (h1 : id ≤ 18446744073709551615) (hx : fnd F.U id = none) : Calls Try.prog 12 #[pt p 0, .int .u64 id] w fun e w' => e = .returned (.int .i64 190) ∧ w' = w := by
  obtain ⟨k, hs, b, V, hA, hf⟩ := h
  exact remove_none hA h0 h1 hx
/-- How many wait behind a turn of one stream. -/
theorem waitL_upd {U : List Ln} (hU : Rising U) {x : Ln} (hx : x ∈ U) (s : Ss) : waitL (fun _ => false) (upd U x.num s) = waitL (fun _ => false) U - x.s.wt + s.wt := by
  induction U with
  | nil => cases hx
  | cons a r ih =>
    obtain ⟨h1, h2⟩ := List.pairwise_cons.1 hU
    have hne : ∀ {n : Int}, (∀ y ∈ r, y.num ≠ n) → upd r n s = r := fun {n} hn => by
      unfold upd
      exact (List.map_congr_left (fun y hy => if_neg (hn y hy))).trans (List.map_id' r)
    show waitL _ ((if a.num = x.num then _ else _) :: upd r x.num s) = _
    rcases List.mem_cons.1 hx with e | hx'
    · subst e
      rw [if_pos rfl, hne (fun y hy => by have := h1 y hy; omega)]
      simp only [waitL, Bool.false_eq_true, if_false]
      omega
    · have hax : ¬ a.num = x.num := by have := h1 x hx'; omega
      rw [if_neg hax]
      simp only [waitL, Bool.false_eq_true, if_false]
      rw [ih h2 hx']
      omega
theorem more_waits {F : Fs} (k : F.Ok) {x : Ln} (hx : x ∈ F.U) (n : Int) : (F.more x n).waits = F.waits + n := by
  show waitL _ (upd F.U x.num (x.s.plus n)) = _
  rw [waitL_upd k.rise hx]
  show F.waits - x.s.wt + (x.s.wt + n) = _
  omega
theorem waits_bd {F : Fs} (k : F.Ok) : 0 ≤ F.waits ∧ F.waits ≤ 1125899906842624 := by
  have h1 := waitL_bd (f := fun _ => false) k.wt
  have h2 := k.len
  exact ⟨h1.1, by show waitL _ F.U ≤ _; omega⟩
theorem waitL_mem {U : List Ln} (h : ∀ x ∈ U, 0 ≤ x.s.wt) {x : Ln} (hx : x ∈ U) : x.s.wt ≤ waitL (fun _ => false) U := by
  induction U with
  | nil => cases hx
  | cons a r ih =>
    simp only [waitL, Bool.false_eq_true, if_false]
    have h0 : 0 ≤ waitL (fun _ => false) r := by
      clear ih hx
      induction r with
      | nil => exact Int.le_refl _
      | cons b r ih =>
        simp only [waitL, Bool.false_eq_true, if_false]
        have := h b (by simp)
        have := ih (fun y hy => by
          rcases List.mem_cons.1 hy with e | e
          · exact h y (by simp [e])
          · exact h y (by simp [e]))
        omega
    rcases List.mem_cons.1 hx with e | hx'
    · subst e; omega
    · have := ih (fun y hy => h y (by simp [hy])) hx'
      have := h a (by simp)
      omega
theorem waitL_zero {U : List Ln} (h : ∀ x ∈ U, x.s.wt = 0) : waitL (fun _ => false) U = 0 := by
  induction U with
  | nil => rfl
  | cons a r ih =>
    simp only [waitL, Bool.false_eq_true, if_false]
    rw [h a (by simp), ih (fun y hy => h y (by simp [hy]))]
    rfl
theorem waits_turn {F : Fs} (k : F.Ok) {x : Ln} {B : List Int} (t : F.Turn x B) : 0 < F.waits := by
  have hx := t.mem
  have hw : 0 < x.s.wt := ((k.one hx (fun s => s.cls = x.s.cls ∧ 0 < s.wt)).1 ((k.row _ (k.cls x hx) _).1 (by rw [t.row]; simp))).2
  have := waitL_mem (fun y hy => (k.wt y hy).1) hx
  show 0 < waitL _ _
  omega
theorem waits_none {F : Fs} (k : F.Ok) (h : ∀ c, c < 8 → F.R c = []) : F.waits = 0 :=
  waitL_zero (fun x hx => by
    have h1 := k.wt x hx
    by_cases e : 0 < x.s.wt
    · have := (k.row _ (k.cls x hx) x.num).2 ⟨x, hx, rfl, rfl, e⟩
      rw [h _ (k.cls x hx)] at this
      cases this
    · omega)
end Go.Proofs.Ytjeokomocopjhaa
