import Derived.Test.YtahkbklhngiloaaCr8
namespace Go.Proofs.Ytahkbklhngiloaa
open Go.RowKit Go.Maps
set_option maxRecDepth 100000

theorem zero_ok {s : Nat} (hs : s ≤ 1) {own peer : Rm} (ho : own.Ok) (hp : peer.Ok) : (Bk.zero s own peer).Ok := by
  have hs' : s = 0 ∨ s = 1 := by omega
  have hown : (Bk.zero s own peer).own = own := by rcases hs' with rfl | rfl <;> rfl
  refine ⟨hs, ?_, ?_, ⟨?_, ?_⟩, ⟨?_, ?_⟩, ⟨?_, ?_⟩, ⟨?_, ?_⟩, ⟨?_, ?_⟩, fun x hx => ?_, fun x hx => ?_⟩
  · rcases hs' with rfl | rfl
    · exact ho
    · exact hp
  · rcases hs' with rfl | rfl
    · exact hp
    · exact ho
  · show (1 : Int) ≤ 1; omega
  · show (1 : Int) % 2 = 1; rfl
  · show (2 : Int) ≤ 2; omega
  · show (2 : Int) % 2 = 0; rfl
  · rfl
  · show (0 : Int) ≤ (if s = 0 then peer else own).str
    have := ho.s0
    have := hp.s0
    split <;> omega
  · rfl
  · show (0 : Int) ≤ (if s = 0 then own else peer).str
    have := ho.s0
    have := hp.s0
    split <;> omega
  · have := ho.a0; have := ho.a1; have := hp.a0; have := hp.a1
    refine ⟨?_, ?_, ?_, ?_, ?_, ?_, ?_⟩ <;> simp only [Bk.zero] <;> omega
  · rw [hown]
    have := ho.a0; have := ho.a1
    simp only [Bk.zero, Ac.limit]
    omega
  · cases hx
  · cases hx
theorem filter_ins (f : Ln → Bool) (y : Ln) : ∀ U : List Ln, ((ins y U).filter f).length = (U.filter f).length + if f y then 1 else 0
  | [] => by
    unfold ins
    by_cases h : f y = true
    · simp [h]
    · simp [h]
  | a :: r => by
    unfold ins
    split
    · by_cases h : f y = true
      · simp [List.filter_cons, h]
      · simp [List.filter_cons, h]
    · rw [List.filter_cons, List.filter_cons]
      have := filter_ins f y r
      split
      · simp only [List.length_cons]
        omega
      · exact this
theorem cntO_ins (y : Ln) (U : List Ln) (k : Int) : cntO (ins y U) k = cntO U k + if (y.s.op && decide (sideN y.num = k)) = true then 1 else 0 := filter_ins _ y U
theorem opn_own (B : Bk) (id : Int) (g : Nat) : (B.opn id g).own = B.own := rfl
theorem opn_ok {B : Bk} (K : B.Ok) {id : Int} (hE : B.openE id = 0) (g : Nat) : (B.opn id g).Ok := by
  obtain ⟨sd, k0, k1, n0, n1, o0, o1, al, ss, nm⟩ := K
  have hownO : B.own.Ok := by unfold Bk.own; split; exact k0; exact k1
  have hpO : B.peer.Ok := by unfold Bk.peer; split; exact k1; exact k0
  have hfr : (B.fresh id g).s.a.Ok ∧ (B.fresh id g).s.a.told ≤ (B.fresh id g).s.a.limit B.own.each := by
    have := hownO.e0; have := hownO.e1; have := hpO.e0; have := hpO.e1
    refine ⟨⟨?_, ?_, ?_, ?_, ?_, ?_, ?_⟩, ?_⟩ <;> simp only [Bk.fresh, Ac.limit] <;> omega
  rcases sideN_cases id with e | e
  · have hid : id = B.n0 ∧ B.o0 < B.r1.str := by
      unfold Bk.openE at hE
      rw [e, if_pos rfl] at hE
      split at hE
      · omega
      · split at hE <;> omega
    have hc := cntO_ins (B.fresh id g) B.U 0
    have hc1 := cntO_ins (B.fresh id g) B.U 1
    rw [if_pos (by simp [Bk.fresh, e])] at hc
    rw [if_neg (by simp [Bk.fresh, e])] at hc1
    refine ⟨sd, k0, k1, ?_, ?_, ?_, ?_, al, fun x hx => ?_, fun x hx => ?_⟩
    · simp only [Bk.opn, e, if_true]; omega
    · simp only [Bk.opn, e, if_true]; omega
    · simp only [Bk.opn, e, if_true]
      rw [hc]
      omega
    · simp only [Bk.opn, e, if_true]
      rw [hc1]
      omega
    · rcases mem_ins.1 hx with rfl | hx
      · exact hfr
      · exact ss x hx
    · simp only [Bk.opn, e, if_true] at hx ⊢
      rcases mem_ins.1 hx with rfl | hx
      · simp only [Bk.fresh]; omega
      · have := nm x hx; omega
  · have hid : id = B.n1 ∧ B.o1 < B.r0.str := by
      unfold Bk.openE at hE
      rw [e, if_neg (by omega)] at hE
      split at hE
      · omega
      · split at hE <;> omega
    have hc := cntO_ins (B.fresh id g) B.U 0
    have hc1 := cntO_ins (B.fresh id g) B.U 1
    rw [if_neg (by simp [Bk.fresh, e])] at hc
    rw [if_pos (by simp [Bk.fresh, e])] at hc1
    have e0 : ¬ ((1 : Int) = 0) := by omega
    refine ⟨sd, k0, k1, ?_, ?_, ?_, ?_, al, fun x hx => ?_, fun x hx => ?_⟩
    · simp only [Bk.opn, e, e0, if_false]; omega
    · simp only [Bk.opn, e, e0, if_false]; omega
    · simp only [Bk.opn, e, e0, if_false]
      rw [hc]
      omega
    · simp only [Bk.opn, e, e0, if_false]
      rw [hc1]
      omega
    · rcases mem_ins.1 hx with rfl | hx
      · exact hfr
      · exact ss x hx
    · simp only [Bk.opn, e, e0, if_false] at hx ⊢
      rcases mem_ins.1 hx with rfl | hx
      · simp only [Bk.fresh]; omega
      · have := nm x hx; omega
def ra : Rm := ⟨10, 6, 2⟩
def rb : Rm := ⟨20, 8, 1⟩
theorem ra_ok : ra.Ok := by constructor <;> decide
theorem rb_ok : rb.Ok := by constructor <;> decide
def e0 : Bk := Bk.zero 0 ra rb
def e1 (g : Nat) : Bk := e0.opn 1 g
def e2 (g g2 : Nat) : Bk := (e1 g).opn 2 g2
def x1 (g : Nat) : Ln := ⟨1, g, ⟨⟨0, 8, 0, 0, 6⟩, true, false⟩⟩
def x2 (g : Nat) : Ln := ⟨2, g, ⟨⟨0, 8, 0, 0, 6⟩, true, false⟩⟩
def e3 (g g2 : Nat) : Bk := (e2 g g2).spn (x1 g) 8
def e4 (g g2 : Nat) : Bk := (e3 g g2).tak (x2 g2) 6
def y2 (g : Nat) : Ln := (x2 g).take 6
theorem f1 (g g2 : Nat) : fnd (e2 g g2).U 1 = some (x1 g) := rfl
theorem f2 (g g2 : Nat) : fnd (e3 g g2).U (x2 g2).num = some (x2 g2) := rfl
theorem f3 (g g2 : Nat) : fnd (e4 g g2).U (y2 g2).num = some (y2 g2) := rfl
theorem acok {a b c d e : Int} (h1 : 0 ≤ a) (h2 : a ≤ b) (h3 : b ≤ 4611686018427387904) (h4 : 0 ≤ d) (h5 : d ≤ c) (h6 : c ≤ e) (h7 : e ≤ 4611686018427387904) : (⟨a, b, c, d, e⟩ : Ac).Ok := ⟨h1, h2, h3, h4, h5, h6, h7⟩
theorem k2 (g g2 : Nat) : (e2 g g2).all.Ok := acok (a := 0) (b := 20) (c := 0) (d := 0) (e := 10) (by omega) (by omega) (by omega) (by omega) (by omega) (by omega) (by omega)
theorem kx1 (g : Nat) : (x1 g).s.a.Ok := acok (by omega) (by omega) (by omega) (by omega) (by omega) (by omega) (by omega)
theorem u3 (g g2 : Nat) : UseOk (e3 g g2) (x2 g2) 0 :=
  ⟨(fnd_some (f2 g g2)).1, by show 0 ≤ 1; omega, ra_ok, acok (a := 8) (b := 20) (c := 0) (d := 0) (e := 10) (by omega) (by omega) (by omega) (by omega) (by omega) (by omega) (by omega), acok (a := 0) (b := 8) (c := 0) (d := 0) (e := 6) (by omega) (by omega) (by omega) (by omega) (by omega) (by omega) (by omega),
    by show (6 : Int) ≤ min (0 + 6) _; decide, by show (10 : Int) ≤ min (0 + 10) _; decide, by omega, by show (0 : Int) ≤ 0 - 0; omega, by show (0 : Int) ≤ 0 - 0; omega, by show (0 : Int) ≤ 2; omega, by show (2 : Int) ≤ _; omega⟩
theorem u4 (g g2 : Nat) : UseOk (e4 g g2) (y2 g2) 3 :=
  ⟨(fnd_some (f3 g g2)).1, by show 0 ≤ 1; omega, ra_ok, acok (a := 8) (b := 20) (c := 0 + 6) (d := 0) (e := 10) (by omega) (by omega) (by omega) (by omega) (by omega) (by omega) (by omega), acok (a := 0) (b := 8) (c := 0 + 6) (d := 0) (e := 6) (by omega) (by omega) (by omega) (by omega) (by omega) (by omega) (by omega),
    by show (6 : Int) ≤ min (0 + 6) _; decide, by show (10 : Int) ≤ min (0 + 10) _; decide, by omega, by show (3 : Int) ≤ 0 + 6 - 0; omega, by show (3 : Int) ≤ 0 + 6 - 0; omega, by show (0 : Int) ≤ 2; omega, by show (2 : Int) ≤ _; omega⟩
theorem n4 (g g2 : Nat) : (e4 g g2).notes (y2 g2) 3 = [(2, 9)] := rfl
theorem build24 (w : World) (a b c : Int) : (Instr.build 24 #[(0, .int .u64 a), (1, .int .u64 b), (2, .int .i64 c)]).run Try.prog w = .ok (.agg #[.int .u64 a, .int .u64 b, .int .i64 c]) w := by kernel_rfl
theorem eq89 (w : World) : (binOp BinOp.eql 89 (.agg #[.int .u64 2, .int .u64 9]) (.agg #[.int .u64 2, .int .u64 9])).run Try.prog w = .ok (.bool true) w := by kernel_rfl
/-- A row of one note. -/
theorem note_one {w : World} {base : Nat} {v : Value} {i l : Int} (h : w.ownsRow base 89 2 v 1 (ncells [(i, l)])) : ∃ g c, v = .slice (some ⟨g, 0, none⟩) 1 c ∧ w.cell? ⟨g, 0, none⟩ = some (.int .u64 i) ∧ w.cell? ⟨g, 1, none⟩ = some (.int .u64 l) := by
  obtain ⟨hl, ⟨rfl, hn⟩ | ⟨g, cap, cur, rfl, hb, hg, hnc, hcm, hcs, htk⟩⟩ := h
  · omega
  · refine ⟨g, cap, rfl, ?_, ?_⟩
    · have : cur.toList[0]? = some (.int .u64 i) := by
        rw [← List.getElem?_take_of_lt (show 0 < 1 * 2 by omega), htk]; rfl
      rw [cell_of_row w g _ _ _ _ hg, ← Array.getElem?_toList]
      exact this
    · have : cur.toList[1]? = some (.int .u64 l) := by
        rw [← List.getElem?_take_of_lt (show 1 < 1 * 2 by omega), htk]; rfl
      rw [cell_of_row w g _ _ _ _ hg, ← Array.getElem?_toList]
      exact this
theorem ne27 (w : World) (g : Nat) : (binOp BinOp.eql 27 (pt g 0) (.pointer none)).run Try.prog w = .ok (.bool false) w := by kernel_rfl
set_option maxHeartbeats 4000000 in
theorem alive_any (w : World) : Calls Try.prog 14 #[] w fun e w' => e = .returned (.bool true) ∧ Below w.heap.size w w' := by
  have hN := new_yes w 0 ra_ok rb_ok
  have hb := build24
  have hbn := buildN
  have he := eq89
  go_enter Try.func14, Try.ntmps14
  go_upto_region 2 with (go_at_call 10; refine hN.mono ?_; rintro e w1 ⟨p, b, rfl, h1, hb1, hp1, hb2⟩; have H1 : Hid (BkAt w1 p b e0) := h1; have HB1 := hid2 hb1; have HP := hid2 (And.intro hp1 hb2); clear h1 hb1 hp1 hb2 hN)
  have hO1 := open_yes H1.out (zero_ok (by omega) ra_ok rb_ok) (id := 1) (by decide) (by decide) (by decide)
  have HO2 : Hid (∀ W g, BkAt W p b (e1 g) → Calls Try.prog 12 #[pt p 0, .int .u64 2] W fun e w' => e = .returned (.int .i64 0) ∧ ∃ g2, W.heap.size ≤ g2 ∧ BkAt w' p b (e2 g g2) ∧ Fr (fun k => k = p ∨ k = b) W w') := fun W g h =>
    open_yes h (opn_ok (zero_ok (by omega) ra_ok rb_ok) (by decide) g) (id := 2) rfl (by show (3 : Int) ≤ _; omega) (by show (2 : Int) ≤ _; omega)
  have HR : Hid (∀ W g g2, BkAt W p b (e2 g g2) → Calls Try.prog 20 #[pt p 0, .int .u64 1] W fun e w' => e = .returned (.int .u64 8) ∧ ∃ q, w' = W.drewN q) := fun W g g2 h => room_some h (k2 g g2) (by omega) (by omega) (f1 g g2) rfl (kx1 g)
  have HS1 : Hid (∀ W g g2, BkAt W p b (e2 g g2) → Calls Try.prog 19 #[pt p 0, .int .u64 1, .int .u64 9] W fun e w' => e = .returned (.int .i64 183) ∧ ∃ q, w' = W.drewN q) := fun W g g2 h => spend_over h (k2 g g2) (by omega) (by omega) (f1 g g2) rfl (kx1 g) (by show min (8 - 0) (20 - 0) < (9 : Int); decide)
  have HS2 : Hid (∀ W g g2, BkAt W p b (e2 g g2) → Calls Try.prog 19 #[pt p 0, .int .u64 1, .int .u64 8] W fun e w' => e = .returned (.int .i64 0) ∧ BkAt w' p b (e3 g g2) ∧ Fr (fun k => Foot p b (e2 g g2) k) W w') := fun W g g2 h => spend_ok h (k2 g g2) (by omega) (by omega) (f1 g g2) rfl (kx1 g) (by omega) (by show (8 : Int) ≤ min (8 - 0) (20 - 0); decide)
  have HT : Hid (∀ W g g2, BkAt W p b (e3 g g2) → Calls Try.prog 16 #[pt p 0, .int .u64 2, .int .u64 6] W fun e w' => e = .returned (.tuple #[.slice none 0 0, .int .i64 0]) ∧ BkAt w' p b (e4 g g2) ∧ Fr (fun k => Foot p b (e3 g g2) k) W w') := fun W g g2 h => take_ok h (f2 g g2) rfl rfl (u3 g g2) (by omega) (by show (6 : Int) ≤ min (6 - 0) (10 - 0); decide)
  have HU : Hid (∀ W g g2, BkAt W p b (e4 g g2) → Calls Try.prog 17 #[pt p 0, .int .u64 2, .int .u64 3] W fun e w' => ∃ v, e = .returned (.tuple #[v, .int .i64 0]) ∧ NAns W p b (e4 g g2) ((e4 g g2).use3 (y2 g2) 3) [(2, 9)] v w') := fun W g g2 h => lUse_ok h (f3 g g2) (u4 g g2)
  go_upto_region 4 with (first
    | (go_at_call 12; refine (HO2.out w2 g1 hb2.out.1).mono ?_; rintro e w3 ⟨rfl, g2, hg2, h3, hf3⟩; have hb3 := hid2 (And.intro h3 (And.intro hg2 hf3)); clear h3 hg2 hf3)
    | (go_at_call 12; refine hO1.mono ?_; rintro e w2 ⟨rfl, g1, hg1, h2, hf2⟩; have hb2 : Hid (BkAt w2 p b (e1 g1) ∧ w1.heap.size ≤ g1 ∧ Fr (fun k => k = p ∨ k = b) w1 w2) := ⟨h2, hg1, hf2⟩; clear h2 hg1 hf2 hO1)
    | (go_at_call 20; refine (HR.out w3 g1 g2 hb3.out.1).mono ?_; rintro e w4 ⟨rfl, q1, rfl⟩)
    | (go_at_call 19; refine (HS2.out (w3.drewN (q1 + q2)) g1 g2 (hb3.out.1.drewN _)).mono ?_; rintro e w5 ⟨rfl, h5, hf5⟩; have hb5 := hid2 (And.intro h5 hf5); clear h5 hf5)
    | (go_at_call 19; refine (HS1.out (w3.drewN q1) g1 g2 (hb3.out.1.drewN _)).mono ?_; rintro e w4 ⟨rfl, q2, rfl⟩))
  go_upto_region 6 with (first
    | (go_at_call 16; refine (HT.out w5 g1 g2 hb5.out.1).mono ?_; rintro e w6 ⟨rfl, h6, hf6⟩; have hb6 := hid2 (And.intro h6 hf6); clear h6 hf6)
    | (go_at_call 17; refine (HU.out w6 g1 g2 hb6.out.1).mono ?_; rintro e w7 ⟨v, rfl, h7, hn7, hf7⟩; have hb7 := hid2 hf7; obtain ⟨gv, cv, rfl, v0, v1⟩ := note_one h7; clear h7 hf7 hn7))
  go_wp2
  go_ret
  refine ⟨by first | rfl | simp, ?_⟩
  have s1 := HB1.out.size
  have s2 := hb2.out.2.2.size
  have s3 := hb3.out.2.2.size
  have a1 := hb2.out.2.1
  have a2 := hb3.out.2.1
  have p1 := HP.out.1
  have p2 := HP.out.2
  have hft : ∀ k, Foot p b (e2 g1 g2) k → w.heap.size ≤ k := fun k hk => by
    rcases hk with rfl | rfl | ⟨x, hx, rfl⟩
    · exact p1
    · exact p2
    · have hx' : x ∈ [x1 g1, x2 g2] := hx
      simp only [List.mem_cons, List.not_mem_nil, or_false] at hx'
      rcases hx' with rfl | rfl
      · show w.heap.size ≤ g1; omega
      · show w.heap.size ≤ g2; omega
  have b2 : Below w.heap.size w w2 := HB1.out.trans (hb2.out.2.2.below (fun k hk => by omega) s1)
  have b3 : Below w.heap.size w w3 := b2.trans (hb3.out.2.2.below (fun k hk => by omega) b2.size)
  have b4 := below_drewN b3 (q1 + q2)
  have b5 : Below w.heap.size w w5 := b4.trans (hb5.out.2.below hft b4.size)
  have b6 : Below w.heap.size w w6 := b5.trans (hb6.out.2.below (fun k hk => hft k (upd_foot.1 hk)) b5.size)
  exact b6.trans (hb7.out.below (fun k hk => hft k (upd_foot.1 (tak_foot.1 hk))) b6.size)
end Go.Proofs.Ytahkbklhngiloaa
