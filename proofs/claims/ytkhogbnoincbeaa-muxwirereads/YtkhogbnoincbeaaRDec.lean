import Derived.Test.YtkhogbnoincbeaaRRead
namespace Go.Proofs.Ytkhogbnoincbeaa
open Go.RowKit Go.Maps Go.Sort
set_option maxRecDepth 100000

theorem rread_nil {w : World} {a : Option Addr} {cap : Nat} : Calls Try.prog 27 #[.slice a 0 cap] w (RpAns w 0 (allA PF.zero [])) := by
  have HR : Hid ((allA PF.zero []).1 = 174) := rfl
  go_enter Try.func27, Try.ntmps27
  go_wp2
  exact cell_door Try.results27 (x := .int .i64 0) (y := .int .i64 174) rfl rfl rfl (Row.new' w _ [.int .i64 0, .int .u64 0, .int .u64 0, .int .i64 0, .int .i64 0, .slice none 0 0] 25 _ rfl rfl) (RpAns.no (below_new w _) HR.out (by decide))
set_option maxHeartbeats 2000000 in
theorem rread_bad {w : World} {a : Option Addr} {l r : List (BitVec 8)} {x : BitVec 8} {L cap : Nat} (hB : BytesAt w a l) (hL : l.length = L) (hl : l = x :: r) (hk : ¬ Known (ub x)) : Calls Try.prog 27 #[.slice a L cap] w (RpAns w L (allA PF.zero l)) := by
  have hL1 : 1 ≤ L := by rw [← hL, hl]; simp
  obtain ⟨g, o, rfl, hcx⟩ := hB 0 (by omega)
  have hx0 : l[0]'(by omega) = x := by simp [hl]
  rw [hx0, Nat.add_zero] at hcx
  have hg := World.block_lt_of_cell? w _ hcx
  simp only at hg
  have hne : ((L : Int) == 0) = false := by simp; omega
  have hL0 : (0 : Int) < (L : Int) := by omega
  have HR : Hid ((allA PF.zero l).1 = 170) := by
    show _ = _
    rw [hl]
    have e : kindD PF.zero (x :: r) = (170, PF.zero, r) := by
      simp only [kindD, oneD]
      rw [if_pos ⟨trivial, hk⟩]
    simp only [allA]
    rw [e, if_pos (by simp)]
  have hxb := ub_bd x
  unfold Known at hk
  clear hB hL hl hx0 hL1
  by_cases h1 : ub x < 1
  · clear hk
    go_enter Try.func27, Try.ntmps27
    go_wp2
    exact cell_door Try.results27 (x := .int .i64 0) (y := .int .i64 170) rfl rfl rfl (row_first w _ (ub x) 0 0 0 0 (.slice none 0 0)) (RpAns.no (below_boxes w _ _) HR.out (by decide))
  · have h2 : 9 < ub x := by omega
    clear hk
    go_enter Try.func27, Try.ntmps27
    go_wp2
    exact cell_door Try.results27 (x := .int .i64 0) (y := .int .i64 170) rfl rfl rfl (row_first w _ (ub x) 0 0 0 0 (.slice none 0 0)) (RpAns.no (below_boxes w _ _) HR.out (by decide))
theorem rread_any {w : World} {a : Option Addr} {l : List (BitVec 8)} {L cap : Nat} (hB : BytesAt w a l) (hL : l.length = L) (hm : L ≤ 140737488351232) (hc : L ≤ cap) : Calls Try.prog 27 #[.slice a L cap] w (RpAns w L (allA PF.zero l)) := by
  cases hl : l with
  | nil =>
    subst hl
    subst hL
    exact rread_nil
  | cons x r =>
    rw [← hl]
    by_cases hk : Known (ub x)
    · obtain ⟨k0, k1⟩ := hk
      have : ub x = 1 ∨ ub x = 2 ∨ ub x = 3 ∨ ub x = 4 ∨ ub x = 5 ∨ ub x = 6 ∨ ub x = 7 ∨ ub x = 8 ∨ ub x = 9 := by omega
      rcases this with e | e | e | e | e | e | e | e | e
      · exact rread_1 hB hL hm hc hl e
      · exact rread_2 hB hL hm hc hl e
      · exact rread_3 hB hL hm hc hl e
      · exact rread_4 hB hL hm hc hl e
      · exact rread_5 hB hL hm hc hl e
      · exact rread_6 hB hL hm hc hl e
      · exact rread_7 hB hL hm hc hl e
      · exact rread_8 hB hL hm hc hl e
      · exact rread_9 hB hL hm hc hl e
    · exact rread_bad hB hL hl hk
/-- The reference's Decode where it answers an error. -/
theorem rdecode_no {w : World} {a : Option Addr} {l : List (BitVec 8)} {L cap : Nat} (hB : BytesAt w a l) (hL : l.length = L) (hm : L ≤ 140737488351232) (hc : L ≤ cap) (h0 : ¬ (allA PF.zero l).1 = 0) :
    Calls Try.prog 16 #[.slice a L cap] w fun e w' => e = .returned (.tuple #[.agg #[.int .i64 0, .int .u64 0, .int .u64 0, .int .i64 0, .int .i64 0, .slice none 0 0], .int .i64 0, .int .i64 (allA PF.zero l).1]) ∧ Below w.heap.size w w' := by
  have HBX := hid (below_new w (.cells #[.int .i64 0, .int .u64 0, .int .u64 0, .int .i64 0, .int .i64 0, .slice none 0 0] 25))
  have R1 := Row.new' w #[.int .i64 0, .int .u64 0, .int .u64 0, .int .i64 0, .int .i64 0, .slice none 0 0] [.int .i64 0, .int .u64 0, .int .u64 0, .int .i64 0, .int .i64 0, .slice none 0 0] 25 _ rfl rfl
  have HRD : Hid (Calls Try.prog 27 #[.slice a L cap] (w.alloc (.cells #[.int .i64 0, .int .u64 0, .int .u64 0, .int .i64 0, .int .i64 0, .slice none 0 0] 25)) fun e w' => ∃ (k s n c h x : Int) (a9 : Option Addr) (n9 c9 : Nat), e = .returned (.tuple #[.agg #[.int .i64 k, .int .u64 s, .int .u64 n, .int .i64 c, .int .i64 h, .slice a9 n9 c9], .int .i64 x, .int .i64 (allA PF.zero l).1]) ∧ Below (w.alloc (.cells #[.int .i64 0, .int .u64 0, .int .u64 0, .int .i64 0, .int .i64 0, .slice none 0 0] 25)).heap.size (w.alloc (.cells #[.int .i64 0, .int .u64 0, .int .u64 0, .int .i64 0, .int .i64 0, .slice none 0 0] 25)) w') := by
    refine (rread_any (hB.kept HBX.out) hL hm hc).mono ?_
    rintro e w' ⟨hb, ⟨_, k, s, n, c, h, x, a9, n9, c9, he⟩ | ⟨hh, _⟩⟩
    · exact ⟨k, s, n, c, h, x, a9, n9, c9, he, hb⟩
    · exact absurd hh h0
  generalize (allA PF.zero l).1 = e0 at *
  have h0b : (e0 == 0) = false := by simpa using h0
  have HR1 := hid R1
  clear hB hL hm hc R1
  go_enter Try.func16, Try.ntmps16
  go_wp2_with (go_at_call 27; refine HRD.out.mono ?_; rintro e w2 ⟨k9, s9, n9, c9, h9, x9, a9, l9, d9, rfl, hb2⟩; have HB2 := hid hb2; have R3 := HR1.out.kept hb2 HR1.out.lt; have HR3 := hid R3; have u0 := R3.cell 0 _ rfl; have u1 := R3.cell 1 _ rfl; have u2 := R3.cell 2 _ rfl; have u3 := R3.cell 3 _ rfl; have u4 := R3.cell 4 _ rfl; have u5 := R3.cell 5 _ rfl; have u6 := fun j => R3.frozen j; have hlt := R3.lt; clear hb2 R3)
  have F4 := six_fr w2 w.heap.size 0 0 0 0 0 (.slice none 0 0)
  have hB2 := HBX.out.trans (HB2.out.mono HBX.out.size)
  refine cell_door Try.results16 (w4 := (six w2 w.heap.size 0 0 0 0 0 (.slice none 0 0)).alloc (.cells #[.int .i64 k9, .int .u64 s9, .int .u64 n9, .int .i64 c9, .int .i64 h9, .slice a9 l9 d9] 25)) (x := .int .i64 0) (y := .int .i64 e0) rfl rfl rfl ((six_row 0 0 0 0 0 (.slice none 0 0) HR3.out).alloc _) ⟨rfl, ?_⟩
  exact below_grow (hB2.trans (F4.below (fun x hx => by omega) hB2.size)) _
/-- The reference's Decode where it answers a frame. -/
theorem rdecode_yes {w : World} {a : Option Addr} {l : List (BitVec 8)} {L cap : Nat} (hB : BytesAt w a l) (hL : l.length = L) (hm : L ≤ 140737488351232) (hc : L ≤ cap) {F : PF} {m : List (BitVec 8)} (h : allA PF.zero l = (0, F, m)) :
    Calls Try.prog 16 #[.slice a L cap] w fun e w' => ∃ (a9 : Option Addr) (c9 : Nat), e = .returned (.tuple #[.agg #[.int .i64 F.k, .int .u64 F.s, .int .u64 F.n, .int .i64 F.c, .int .i64 F.h, .slice a9 F.bs.length c9], .int .i64 ((L : Int) - (m.length : Int)), .int .i64 0]) ∧ BytesAt w' a9 F.bs ∧ (∀ g o, a9 = some ⟨g, o, none⟩ → w.heap.size ≤ g) ∧ Below w.heap.size w w' := by
  have HBX := hid (below_new w (.cells #[.int .i64 0, .int .u64 0, .int .u64 0, .int .i64 0, .int .i64 0, .slice none 0 0] 25))
  have R1 := Row.new' w #[.int .i64 0, .int .u64 0, .int .u64 0, .int .i64 0, .int .i64 0, .slice none 0 0] [.int .i64 0, .int .u64 0, .int .u64 0, .int .i64 0, .int .i64 0, .slice none 0 0] 25 _ rfl rfl
  have HRD : Hid (Calls Try.prog 27 #[.slice a L cap] (w.alloc (.cells #[.int .i64 0, .int .u64 0, .int .u64 0, .int .i64 0, .int .i64 0, .slice none 0 0] 25)) fun e w' => ∃ (a9 : Option Addr) (c9 : Nat), e = .returned (.tuple #[.agg #[.int .i64 F.k, .int .u64 F.s, .int .u64 F.n, .int .i64 F.c, .int .i64 F.h, .slice a9 F.bs.length c9], .int .i64 ((L : Int) - (m.length : Int)), .int .i64 0]) ∧ BytesAt w' a9 F.bs ∧ (∀ g o, a9 = some ⟨g, o, none⟩ → w.heap.size + 1 ≤ g) ∧ Below (w.alloc (.cells #[.int .i64 0, .int .u64 0, .int .u64 0, .int .i64 0, .int .i64 0, .slice none 0 0] 25)).heap.size (w.alloc (.cells #[.int .i64 0, .int .u64 0, .int .u64 0, .int .i64 0, .int .i64 0, .slice none 0 0] 25)) w') := by
    have := rread_any (cap := cap) (hB.kept HBX.out) hL hm hc
    rw [h] at this
    refine this.mono ?_
    rintro e w' ⟨hb, ⟨hh, _⟩ | ⟨_, a9, c9, he, k1, k2⟩⟩
    · exact absurd rfl hh
    · exact ⟨a9, c9, he, k1, fun g o e => by have := k2 g o e; simpa using this, hb⟩
  have HR1 := hid R1
  clear hB hL hm hc R1 h
  obtain ⟨X, hX⟩ : ∃ X : Int, (L : Int) - (m.length : Int) = X := ⟨_, rfl⟩
  rw [hX] at HRD ⊢
  clear hX
  go_enter Try.func16, Try.ntmps16
  go_wp2_with (go_at_call 27; refine HRD.out.mono ?_; rintro e w2 ⟨a9, c9, rfl, k1, k2, hb2⟩; have HB2 := hid hb2; have HK1 := hid k1; have HK2 := hid k2; have R3 := HR1.out.kept hb2 HR1.out.lt; have HR3 := hid R3; have u0 := R3.cell 0 _ rfl; have u1 := R3.cell 1 _ rfl; have u2 := R3.cell 2 _ rfl; have u3 := R3.cell 3 _ rfl; have u4 := R3.cell 4 _ rfl; have u5 := R3.cell 5 _ rfl; have u6 := fun j => R3.frozen j; have hlt := R3.lt; clear hb2 R3 k1 k2)
  have F4 := six_fr w2 w.heap.size F.k F.s F.n F.c F.h (.slice a9 F.bs.length c9)
  have hB2 := HBX.out.trans (HB2.out.mono HBX.out.size)
  refine cell_door Try.results16 (w4 := (six w2 w.heap.size F.k F.s F.n F.c F.h (.slice a9 F.bs.length c9)).alloc (.cells #[.int .i64 F.k, .int .u64 F.s, .int .u64 F.n, .int .i64 F.c, .int .i64 F.h, .slice a9 F.bs.length c9] 25)) (x := .int .i64 X) (y := .int .i64 0) rfl rfl rfl ((six_row F.k F.s F.n F.c F.h (.slice a9 F.bs.length c9) HR3.out).alloc _) ⟨a9, c9, rfl, ?_, ?_, ?_⟩
  · exact (BytesAt.fr HK1.out F4 (fun g o e hx => by have := HK2.out g o e; omega)).kept (below_new _ _)
  · intro g o e
    have := HK2.out g o e
    omega
  · exact below_grow (hB2.trans (F4.below (fun x hx => by omega) hB2.size)) _
end Go.Proofs.Ytkhogbnoincbeaa
