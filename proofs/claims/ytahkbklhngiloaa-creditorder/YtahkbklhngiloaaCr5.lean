import Derived.Test.YtahkbklhngiloaaCr4
namespace Go.Proofs.Ytahkbklhngiloaa
open Go.RowKit Go.Maps
set_option maxRecDepth 100000

theorem open_no {w : World} {p b : Nat} {B : Bk} (h : BkAt w p b B) {id : Int} (hE : B.openE id ≠ 0) : Calls Try.prog 12 #[pt p 0, .int .u64 id] w fun e w' => e = .returned (.int .i64 (B.openE id)) ∧ ∃ q, w' = w.drewN q := by
  have hG := given_yes h
  have hM := mayOpen_any h id
  clear h
  generalize B.openE id = E at *
  go_enter Try.func12, Try.ntmps12
  go_wp2_with (first | (go_at_call 31; refine hG.mono ?_; rintro e w' ⟨rfl, rfl⟩) | (go_at_call 32; refine hM.mono ?_; rintro e w' ⟨rfl, q, rfl⟩))
  go_ret
  exact ⟨rfl, _, rfl⟩
/-- The stream that is opened. -/
def Bk.fresh (B : Bk) (id : Int) (g : Nat) : Ln := ⟨id, g, ⟨⟨0, B.peer.each, 0, 0, B.own.each⟩, true, false⟩⟩
def Bk.opn (B : Bk) (id : Int) (g : Nat) : Bk :=
  { B with n0 := if sideN id = 0 then B.n0 + 2 else B.n0, n1 := if sideN id = 0 then B.n1 else B.n1 + 2, o0 := if sideN id = 0 then B.o0 + 1 else B.o0, o1 := if sideN id = 0 then B.o1 else B.o1 + 1, U := ins (B.fresh id g) B.U }
/-- A stream is born. -/
theorem BkAt.born {w w' : World} {p b : Nat} {B : Bk} (h : BkAt w p b B) {y : Ln} (hy : ∀ x ∈ B.U, x.num ≠ y.num) (hr : Row w y.g y.s.cells 84) (hg : ∀ x ∈ B.U, x.g ≠ y.g)
    (ho : w'.ownsMap Try.prog 22 readP b (B.U.length + 1) ((UD B.U).put (kw y.num) (.held y.g))) (hf : w.grownBy w' (some b)) : BkAt w' p b { B with U := ins y B.U } := by
  have hF : Fr (fun k => k = b) w w' := Fr.of_grown hf (fun k e => .inl (by simpa using e.symm))
  have hyb : y.g ≠ b := fun e => by
    obtain ⟨es, clock, hb, _⟩ := h.map
    rw [← e, hr.at_] at hb
    cases hb
  rw [UD_put hy] at ho
  refine ⟨hF.row h.row h.pb, own_tight ho, fun x hx => ?_, ?_, ins_rising h.rise hy⟩
  · rcases mem_ins.1 hx with rfl | hx
    · exact hF.row hr hyb
    · exact hF.row (h.rows x hx) (h.gb hx)
  · show (ins y B.U).Pairwise _
    have := h.inj
    clear ho hr h
    generalize B.U = U at *
    clear hy
    induction U with
    | nil => exact List.pairwise_singleton _ _
    | cons a r ih =>
      obtain ⟨h1, h2⟩ := List.pairwise_cons.1 this
      unfold ins
      split
      · refine List.pairwise_cons.2 ⟨fun x hx => fun e => hg x hx e.symm, this⟩
      · refine List.pairwise_cons.2 ⟨fun x hx => ?_, ih (fun x hx => hg x (by simp [hx])) h2⟩
        rcases mem_ins.1 hx with rfl | hx
        · exact hg a (by simp)
        · exact h1 x hx
/-- A stream is taken out. -/
theorem BkAt.died {w w' : World} {p b : Nat} {B : Bk} (h : BkAt w p b B) {n : Int} (ho : w'.ownsMap Try.prog 22 readP b B.U.length ((UD B.U).del (kw n))) (hf : w.grownBy w' (some b)) : BkAt w' p b { B with U := less B.U n } := by
  have hF : Fr (fun k => k = b) w w' := Fr.of_grown hf (fun k e => .inl (by simpa using e.symm))
  rw [UD_del] at ho
  exact ⟨hF.row h.row h.pb, own_tight ho, fun x hx => hF.row (h.rows x (mem_less.1 hx).1) (h.gb (mem_less.1 hx).1), List.Pairwise.filter _ h.inj, less_rising h.rise n⟩
theorem build84 (w : World) (a b c d e : Int) : (Instr.build 84 #[(0, .agg #[.int .u64 a, .int .u64 b, .int .u64 c, .int .u64 d, .int .u64 e]), (1, .bool true)]).run Try.prog w = .ok (.agg #[.int .u64 a, .int .u64 b, .int .u64 c, .int .u64 d, .int .u64 e, .bool true, .bool false]) w := by kernel_rfl
theorem rise_len : ∀ {U : List Ln}, Rising U → ∀ {lo hi : Int}, (∀ x ∈ U, lo ≤ x.num ∧ x.num < hi) → U.length ≤ (hi - lo).toNat
  | [], _, _, _, _ => Nat.zero_le _
  | a :: r, h, lo, hi, hb => by
    obtain ⟨h1, h2⟩ := List.pairwise_cons.1 h
    have := rise_len h2 (lo := a.num + 1) (hi := hi) (fun x hx => ⟨by have := h1 x hx; omega, (hb x (by simp [hx])).2⟩)
    have := hb a (by simp)
    simp only [List.length_cons]
    omega
theorem hid2 {p : Prop} (h : p) : Hid p := h
theorem field24 (w : World) (a b c : Value) : (Instr.field 24 (.agg #[a, b, c]) 1).run Try.prog w = .ok b w := by kernel_rfl
/-- The store of a new stream into the map. -/
theorem open_store {w3 w5 : World} {p b : Nat} {B : Bk} (h : BkAt w3 p b B) (hb : Below w3.heap.size w3 w5) (hl : B.U.length < maxLen) (y : Ln) (hg : y.g = w5.heap.size) (hy : (∀ x ∈ B.U, x.num ≠ y.num) ∧ 0 ≤ y.num ∧ y.num ≤ 18446744073709551615) :
    ∃ w6, (Instr.mapUpdate 44 (.map (some b)) (.int .u64 y.num) (.pointer (some ⟨w5.heap.size, 0, none⟩))).run Try.prog (w5.alloc (.cells #[.int .u64 y.s.a.sent, .int .u64 y.s.a.may, .int .u64 y.s.a.came, .int .u64 y.s.a.used, .int .u64 y.s.a.told, .bool y.s.op, .bool y.s.deaf] 84)) = .ok () w6 ∧ (∀ j v, w3.cell? ⟨p, j, none⟩ = some v → w6.cell? ⟨p, j, none⟩ = some v) ∧
      (BkAt w6 p b { B with U := ins y B.U } ∧ w3.heap.size ≤ y.g ∧ Fr (fun k => k = b) w3 w6) := by
  have hbx := below_box w5 (.cells #[.int .u64 y.s.a.sent, .int .u64 y.s.a.may, .int .u64 y.s.a.came, .int .u64 y.s.a.used, .int .u64 y.s.a.told, .bool y.s.op, .bool y.s.deaf] 84)
  have hb' := hb.trans (hbx.mono hb.size)
  have H := h.below hb'
  obtain ⟨w6, hrun, hown, hturn⟩ := World.ownsMap.store H.map law22 Try.underlying44 hl (key := .int .u64 y.num) (val := pt w5.heap.size 0) (d := .held y.g) (ps := []) (key22 hy.2.1 hy.2.2) (by rw [hg]; rfl)
  have hR : Row (w5.alloc (.cells #[.int .u64 y.s.a.sent, .int .u64 y.s.a.may, .int .u64 y.s.a.came, .int .u64 y.s.a.used, .int .u64 y.s.a.told, .bool y.s.op, .bool y.s.deaf] 84)) y.g y.s.cells 84 := by rw [hg]; exact Row.new w5 y.s.cells 84
  have hlt : ∀ x ∈ B.U, x.g ≠ y.g := fun x hx => by have := h.lt (.inr (.inr ⟨x, hx, rfl⟩)); have := hb.size; omega
  have hF : Fr (fun k => k = b) w3 w6 := (Fr.of_below hb' (Nat.le_refl _)).trans (T := fun k => k = b) (Fr.of_grown hturn.grown (fun k e => .inl (by simpa using e.symm))) (fun x e => .inl e)
  exact ⟨w6, hrun, fun j v hc => hF.cell hc h.pb, H.born hy.1 hR hlt hown hturn.grown, by rw [hg]; exact hb.size, hF⟩
set_option maxHeartbeats 4000000 in
theorem open_yes {w : World} {p b : Nat} {B : Bk} (h : BkAt w p b B) (K : B.Ok) {id : Int} (hE : B.openE id = 0) (hn0 : B.n0 ≤ 4611686018427387904) (hn1 : B.n1 ≤ 4611686018427387904) :
    Calls Try.prog 12 #[pt p 0, .int .u64 id] w fun e w' => e = .returned (.int .i64 0) ∧ ∃ g, w.heap.size ≤ g ∧ BkAt w' p b (B.opn id g) ∧ Fr (fun k => k = p ∨ k = b) w w' := by
  have hG := given_yes h
  have hM := mayOpen_any h id
  rw [hE] at hM
  have hS := fun w => sideOf_any w id
  have hsd := K.sd
  have hbl := build84
  have hfl := field24
  have hw1 : IntKind.i64.wrap 1 = 1 := by decide
  have hw0 : IntKind.i64.wrap 0 = 0 := by decide
  have HUL : Hid (B.U.length < maxLen) := by
    have := rise_len h.rise (lo := 1) (hi := 4611686018427387904) (fun x hx => by have h1 := K.num x hx; rcases Int.emod_two_eq x.num with e | e; have := h1.2.2 e; omega; have := h1.2.1 e; omega)
    show _ < _
    unfold maxLen
    omega
  rcases sideN_cases id with e | e
  · have hid : id = B.n0 ∧ B.o0 < B.r1.str := by
      unfold Bk.openE at hE
      rw [e, if_pos rfl] at hE
      split at hE
      · omega
      · split at hE <;> omega
    obtain ⟨rfl, ho⟩ := hid
    have HN : Hid (∀ x ∈ B.U, x.num ≠ B.n0) := fun x hx e => by have h1 := (K.num x hx).2.1; have := K.n0; omega
    have hn := K.n0
    have HNN : Hid ((∀ x ∈ B.U, x.num ≠ B.n0) ∧ 0 ≤ B.n0 ∧ B.n0 ≤ 18446744073709551615) := ⟨HN.out, by omega, by omega⟩
    have ho2 := K.k1.s1
    have ho0 : 0 ≤ B.o0 := by rw [K.o0.1]; omega
    have hwn : IntKind.u64.wrap (B.n0 + 2) = B.n0 + 2 := by rw [IntKind.wrap_u64]; omega
    have hwo : IntKind.i64.wrap (B.o0 + 1) = B.o0 + 1 := by rw [IntKind.wrap_i64]; omega
    have HE := hid2 e
    simp only [e] at hS
    clear e K
    go_enter Try.func12, Try.ntmps12
    go_upto_region 6 with (first | (go_at_call 31; refine hG.mono ?_; rintro e w' ⟨rfl, rfl⟩) | (go_at_call 32; refine hM.mono ?_; rintro e w' ⟨rfl, q, rfl⟩))
    refine wp_world ?_
    intro w1 hw1
    have H1 : BkAt w1 p b B := by rw [hw1.out]; exact h.drewN q
    have HF1 : Hid (Fr (fun k => k = p ∨ k = b) w' w1) := by show Fr _ _ _; rw [hw1.out]; exact (Fr.refl _ _).drewN q
    have c7 := H1.row.cell 7 _ rfl
    have f7 := H1.row.frozen 7
    have HH1 := hid2 H1
    clear H1 hw1 h
    go_region_with (go_at_call 33; refine (hS _).mono ?_; rintro e w' ⟨rfl, rfl⟩)
    go_upto_region 7 with fail
    refine wp_world ?_
    intro w2 hw2
    have H2 : BkAt w2 p b { B with n0 := B.n0 + 2 } := by rw [hw2.out]; exact (HH1.out.field 7 (.int .u64 (B.n0 + 2)) (B' := { B with n0 := B.n0 + 2 }) rfl rfl).drewN 1
    have HF2 : Hid (Fr (fun k => k = p ∨ k = b) w' w2) := by show Fr _ _ _; rw [hw2.out]; exact (HF1.out.setCell p 7 _ (.inl (.inl rfl))).drewN 1
    have c9 := H2.row.cell 9 _ rfl
    have f9 := H2.row.frozen 9
    have HH2 := hid2 H2
    clear H2 hw2 c7 f7 HH1 HF1 hwn
    go_region_with (go_at_call 33; refine (hS _).mono ?_; rintro e w' ⟨rfl, rfl⟩)
    go_upto_region 8 with fail
    refine wp_world ?_
    intro w3 hw3
    have H3 : BkAt w3 p b { B with n0 := B.n0 + 2, o0 := B.o0 + 1 } := by rw [hw3.out]; exact (HH2.out.field 9 (.int .i64 (B.o0 + 1)) (B' := { B with n0 := B.n0 + 2, o0 := B.o0 + 1 }) rfl rfl).drewN 1
    have HF3 : Hid (Fr (fun k => k = p ∨ k = b) w' w3) := by show Fr _ _ _; rw [hw3.out]; exact (HF2.out.setCell p 9 _ (.inl (.inl rfl))).drewN 1
    have HH3 := hid2 H3
    have hO : Calls Try.prog 34 #[pt p 0] w3.drew fun e w' => e = .returned (.agg #[.int .u64 B.own.all, .int .u64 B.own.each, .int .i64 B.own.str]) ∧ Below w3.heap.size w3 w' :=
      (own_any (H3.drewN 1) hsd).mono (fun _ _ hh => ⟨hh.1, (below_drewN (Below.refl _ _) 1).trans hh.2⟩)
    have c0 := H3.row.cell 0 _ rfl
    have c16 := H3.row.cell 16 _ rfl
    clear H3 hw3 c9 f9 HH2 HF2 hG hM hS hwo
    have hpe : B.peer.each = if B.side = 0 then B.r1.each else B.r0.each := by unfold Bk.peer; split <;> rfl
    obtain hs' | hs' : B.side = 0 ∨ B.side = 1 := by omega
    · have ce := HH3.out.row.cell 5 _ rfl
      simp only [hs'] at c0
      rw [hs'] at hpe
      rw [if_pos rfl] at hpe
      rw [show ((({ B with n0 := B.n0 + 2, o0 := B.o0 + 1 } : Bk).r1).each) = B.peer.each from hpe.symm] at ce
      clear hpe
      go_region_held3 (fun w' => w'.cell? ⟨p, 16, none⟩ = some (.map (some b)) ∧ w'.cell? ⟨p, 0, none⟩ = some (.int .i64 0) ∧ w'.cell? ⟨p, 5, none⟩ = some (.int .u64 B.peer.each)) (go_keep)
        (first
          | (go_at_call 34; refine hO.mono ?_; rintro e w4 ⟨rfl, hb4⟩; have d0 := cell_kept hb4 c0; have d16 := cell_kept hb4 c16; have de := cell_kept hb4 ce; have HB4 := hid2 hb4; clear hb4)
          | (go_at_call 30; refine (newacc_any w4 _ _).mono ?_; rintro e w5 ⟨rfl, hb5⟩; have e0 := cell_kept hb5 d0; have e16 := cell_kept hb5 d16; have ee := cell_kept hb5 de; have HB5 := hid2 (HB4.out.trans (hb5.mono HB4.out.size)); clear hb5
             obtain ⟨w6, hrun, hcl, hX⟩ := open_store HH3.out HB5.out HUL.out (B.fresh B.n0 w5.heap.size) rfl HNN.out
             have HX := hid2 hX; clear hX; have g0 := hcl _ _ c0; have g16 := hcl _ _ c16; have ge := hcl _ _ ce; clear hcl
             simp only [Bk.fresh] at hrun))
      go_wp2
      go_ret
      have hXX := HX.out
      refine ⟨rfl, w5.heap.size, Nat.le_trans HF3.out.size HB5.out.size, ?_, HF3.out.trans hXX.2.2 (fun x e => .inl (.inr e))⟩
      have hX1 := hXX.1
      simp only [Bk.opn, HE.out, if_true]
      exact hX1
    · have ce := HH3.out.row.cell 2 _ rfl
      simp only [hs'] at c0
      rw [hs'] at hpe
      rw [if_neg (by omega)] at hpe
      rw [show ((({ B with n0 := B.n0 + 2, o0 := B.o0 + 1 } : Bk).r0).each) = B.peer.each from hpe.symm] at ce
      clear hpe
      go_region_held3 (fun w' => w'.cell? ⟨p, 16, none⟩ = some (.map (some b)) ∧ w'.cell? ⟨p, 0, none⟩ = some (.int .i64 1) ∧ w'.cell? ⟨p, 2, none⟩ = some (.int .u64 B.peer.each)) (go_keep)
        (first
          | (go_at_call 34; refine hO.mono ?_; rintro e w4 ⟨rfl, hb4⟩; have d0 := cell_kept hb4 c0; have d16 := cell_kept hb4 c16; have de := cell_kept hb4 ce; have HB4 := hid2 hb4; clear hb4)
          | (go_at_call 30; refine (newacc_any w4 _ _).mono ?_; rintro e w5 ⟨rfl, hb5⟩; have e0 := cell_kept hb5 d0; have e16 := cell_kept hb5 d16; have ee := cell_kept hb5 de; have HB5 := hid2 (HB4.out.trans (hb5.mono HB4.out.size)); clear hb5
             obtain ⟨w6, hrun, hcl, hX⟩ := open_store HH3.out HB5.out HUL.out (B.fresh B.n0 w5.heap.size) rfl HNN.out
             have HX := hid2 hX; clear hX; have g0 := hcl _ _ c0; have g16 := hcl _ _ c16; have ge := hcl _ _ ce; clear hcl
             simp only [Bk.fresh] at hrun))
      go_wp2
      go_ret
      have hXX := HX.out
      refine ⟨rfl, w5.heap.size, Nat.le_trans HF3.out.size HB5.out.size, ?_, HF3.out.trans hXX.2.2 (fun x e => .inl (.inr e))⟩
      have hX1 := hXX.1
      simp only [Bk.opn, HE.out, if_true]
      exact hX1
  · have hid : id = B.n1 ∧ B.o1 < B.r0.str := by
      unfold Bk.openE at hE
      rw [e, if_neg (by omega)] at hE
      split at hE
      · omega
      · split at hE <;> omega
    obtain ⟨rfl, ho⟩ := hid
    have HN : Hid (∀ x ∈ B.U, x.num ≠ B.n1) := fun x hx e => by have h1 := (K.num x hx).2.2; have := K.n1; omega
    have hn := K.n1
    have HNN : Hid ((∀ x ∈ B.U, x.num ≠ B.n1) ∧ 0 ≤ B.n1 ∧ B.n1 ≤ 18446744073709551615) := ⟨HN.out, by omega, by omega⟩
    have ho2 := K.k0.s1
    have ho0 : 0 ≤ B.o1 := by rw [K.o1.1]; omega
    have hwn : IntKind.u64.wrap (B.n1 + 2) = B.n1 + 2 := by rw [IntKind.wrap_u64]; omega
    have hwo : IntKind.i64.wrap (B.o1 + 1) = B.o1 + 1 := by rw [IntKind.wrap_i64]; omega
    have HE := hid2 e
    simp only [e] at hS
    clear e K
    go_enter Try.func12, Try.ntmps12
    go_upto_region 6 with (first | (go_at_call 31; refine hG.mono ?_; rintro e w' ⟨rfl, rfl⟩) | (go_at_call 32; refine hM.mono ?_; rintro e w' ⟨rfl, q, rfl⟩))
    refine wp_world ?_
    intro w1 hw1
    have H1 : BkAt w1 p b B := by rw [hw1.out]; exact h.drewN q
    have HF1 : Hid (Fr (fun k => k = p ∨ k = b) w' w1) := by show Fr _ _ _; rw [hw1.out]; exact (Fr.refl _ _).drewN q
    have c7 := H1.row.cell 8 _ rfl
    have f7 := H1.row.frozen 8
    have HH1 := hid2 H1
    clear H1 hw1 h
    go_region_with (go_at_call 33; refine (hS _).mono ?_; rintro e w' ⟨rfl, rfl⟩)
    go_upto_region 7 with fail
    refine wp_world ?_
    intro w2 hw2
    have H2 : BkAt w2 p b { B with n1 := B.n1 + 2 } := by rw [hw2.out]; exact (HH1.out.field 8 (.int .u64 (B.n1 + 2)) (B' := { B with n1 := B.n1 + 2 }) rfl rfl).drewN 1
    have HF2 : Hid (Fr (fun k => k = p ∨ k = b) w' w2) := by show Fr _ _ _; rw [hw2.out]; exact (HF1.out.setCell p 8 _ (.inl (.inl rfl))).drewN 1
    have c9 := H2.row.cell 10 _ rfl
    have f9 := H2.row.frozen 10
    have HH2 := hid2 H2
    clear H2 hw2 c7 f7 HH1 HF1 hwn
    go_region_with (go_at_call 33; refine (hS _).mono ?_; rintro e w' ⟨rfl, rfl⟩)
    go_upto_region 8 with fail
    refine wp_world ?_
    intro w3 hw3
    have H3 : BkAt w3 p b { B with n1 := B.n1 + 2, o1 := B.o1 + 1 } := by rw [hw3.out]; exact (HH2.out.field 10 (.int .i64 (B.o1 + 1)) (B' := { B with n1 := B.n1 + 2, o1 := B.o1 + 1 }) rfl rfl).drewN 1
    have HF3 : Hid (Fr (fun k => k = p ∨ k = b) w' w3) := by show Fr _ _ _; rw [hw3.out]; exact (HF2.out.setCell p 10 _ (.inl (.inl rfl))).drewN 1
    have HH3 := hid2 H3
    have hO : Calls Try.prog 34 #[pt p 0] w3.drew fun e w' => e = .returned (.agg #[.int .u64 B.own.all, .int .u64 B.own.each, .int .i64 B.own.str]) ∧ Below w3.heap.size w3 w' :=
      (own_any (H3.drewN 1) hsd).mono (fun _ _ hh => ⟨hh.1, (below_drewN (Below.refl _ _) 1).trans hh.2⟩)
    have c0 := H3.row.cell 0 _ rfl
    have c16 := H3.row.cell 16 _ rfl
    clear H3 hw3 c9 f9 HH2 HF2 hG hM hS hwo
    have hpe : B.peer.each = if B.side = 0 then B.r1.each else B.r0.each := by unfold Bk.peer; split <;> rfl
    obtain hs' | hs' : B.side = 0 ∨ B.side = 1 := by omega
    · have ce := HH3.out.row.cell 5 _ rfl
      simp only [hs'] at c0
      rw [hs'] at hpe
      rw [if_pos rfl] at hpe
      rw [show ((({ B with n1 := B.n1 + 2, o1 := B.o1 + 1 } : Bk).r1).each) = B.peer.each from hpe.symm] at ce
      clear hpe
      go_region_held3 (fun w' => w'.cell? ⟨p, 16, none⟩ = some (.map (some b)) ∧ w'.cell? ⟨p, 0, none⟩ = some (.int .i64 0) ∧ w'.cell? ⟨p, 5, none⟩ = some (.int .u64 B.peer.each)) (go_keep)
        (first
          | (go_at_call 34; refine hO.mono ?_; rintro e w4 ⟨rfl, hb4⟩; have d0 := cell_kept hb4 c0; have d16 := cell_kept hb4 c16; have de := cell_kept hb4 ce; have HB4 := hid2 hb4; clear hb4)
          | (go_at_call 30; refine (newacc_any w4 _ _).mono ?_; rintro e w5 ⟨rfl, hb5⟩; have e0 := cell_kept hb5 d0; have e16 := cell_kept hb5 d16; have ee := cell_kept hb5 de; have HB5 := hid2 (HB4.out.trans (hb5.mono HB4.out.size)); clear hb5
             obtain ⟨w6, hrun, hcl, hX⟩ := open_store HH3.out HB5.out HUL.out (B.fresh B.n1 w5.heap.size) rfl HNN.out
             have HX := hid2 hX; clear hX; have g0 := hcl _ _ c0; have g16 := hcl _ _ c16; have ge := hcl _ _ ce; clear hcl
             simp only [Bk.fresh] at hrun))
      go_wp2
      go_ret
      have hXX := HX.out
      refine ⟨rfl, w5.heap.size, Nat.le_trans HF3.out.size HB5.out.size, ?_, HF3.out.trans hXX.2.2 (fun x e => .inl (.inr e))⟩
      have hX1 := hXX.1
      simp only [Bk.opn, HE.out, show ¬ ((1 : Int) = 0) by omega, if_false]
      exact hX1
    · have ce := HH3.out.row.cell 2 _ rfl
      simp only [hs'] at c0
      rw [hs'] at hpe
      rw [if_neg (by omega)] at hpe
      rw [show ((({ B with n1 := B.n1 + 2, o1 := B.o1 + 1 } : Bk).r0).each) = B.peer.each from hpe.symm] at ce
      clear hpe
      go_region_held3 (fun w' => w'.cell? ⟨p, 16, none⟩ = some (.map (some b)) ∧ w'.cell? ⟨p, 0, none⟩ = some (.int .i64 1) ∧ w'.cell? ⟨p, 2, none⟩ = some (.int .u64 B.peer.each)) (go_keep)
        (first
          | (go_at_call 34; refine hO.mono ?_; rintro e w4 ⟨rfl, hb4⟩; have d0 := cell_kept hb4 c0; have d16 := cell_kept hb4 c16; have de := cell_kept hb4 ce; have HB4 := hid2 hb4; clear hb4)
          | (go_at_call 30; refine (newacc_any w4 _ _).mono ?_; rintro e w5 ⟨rfl, hb5⟩; have e0 := cell_kept hb5 d0; have e16 := cell_kept hb5 d16; have ee := cell_kept hb5 de; have HB5 := hid2 (HB4.out.trans (hb5.mono HB4.out.size)); clear hb5
             obtain ⟨w6, hrun, hcl, hX⟩ := open_store HH3.out HB5.out HUL.out (B.fresh B.n1 w5.heap.size) rfl HNN.out
             have HX := hid2 hX; clear hX; have g0 := hcl _ _ c0; have g16 := hcl _ _ c16; have ge := hcl _ _ ce; clear hcl
             simp only [Bk.fresh] at hrun))
      go_wp2
      go_ret
      have hXX := HX.out
      refine ⟨rfl, w5.heap.size, Nat.le_trans HF3.out.size HB5.out.size, ?_, HF3.out.trans hXX.2.2 (fun x e => .inl (.inr e))⟩
      have hX1 := hXX.1
      simp only [Bk.opn, HE.out, show ¬ ((1 : Int) = 0) by omega, if_false]
      exact hX1
end Go.Proofs.Ytahkbklhngiloaa
