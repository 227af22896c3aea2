import Derived.Test.YtimiokbnhneggaaB1
namespace Go.Proofs.Ytimiokbnhneggaa
open Go.RowKit Go.Maps Go.Sort
set_option maxRecDepth 100000

theorem build64 (w : World) (x y z : Int) : (Instr.build 64 #[(0, .int .u64 x), (1, .int .i64 y), (2, .int .i64 z)]).run Try.prog w = .ok (.agg #[.int .u64 x, .int .i64 y, .int .i64 z]) w := by kernel_rfl
theorem one3 (x y z : Int) : ∀ v ∈ [Value.int .u64 x, .int .i64 y, .int .i64 z], v.oneCell' = true := by
  intro v hv
  simp only [List.mem_cons, List.not_mem_nil, or_false] at hv
  rcases hv with rfl | rfl | rfl <;> rfl
theorem i64' : (Try.prog.info? 64).map (·.size) = some 3 := by kernel_rfl
set_option maxHeartbeats 60000000 in
theorem bounds_any {w : World} (x0 x1 x2 : Int) (hx0 : 0 ≤ x0) {ao : Option Addr} {co : Nat} (O : List Opr) (hO : OprsAt w ao O) (M : Nat) (hM : O.length = M) (hM2 : M ≤ 1048576) (hOk : ∀ o ∈ O, o.Ok w) :
    Calls Try.prog 8 #[.agg #[.int .u64 x0, .int .i64 x1, .int .i64 x2], .slice ao M co] w fun e w' => e = .returned (.bool true) ∧ Below w.heap.size w w' := by
  obtain ⟨base, hbase⟩ : ∃ b, x0 % 4611686018427387905 = b := ⟨_, rfl⟩
  have hb0 : 0 ≤ base := by omega
  have hb1 : base ≤ 4611686018427387904 := by omega
  obtain ⟨C, hC⟩ : ∃ b, IntKind.u64.wrap x1 % 1073741824 = b := ⟨_, rfl⟩
  obtain ⟨G, hG⟩ : ∃ b, IntKind.u64.wrap x2 % 64 = b := ⟨_, rfl⟩
  have hC0 : 0 ≤ C ∧ C < 1073741824 := by have := wrap_u64_nn x1; omega
  have hG0 : 0 ≤ G ∧ G < 64 := by have := wrap_u64_nn x2; omega
  obtain ⟨c0, c1⟩ := hC0
  obtain ⟨g0, g1⟩ := hG0
  have wc0 := (wrap_u64_nn x1).1
  have wg0 := (wrap_u64_nn x2).1
  have hBa := fun W => based_any W x0 hx0
  rw [hbase] at hBa
  have HBA := hid hBa
  have HO := hid hO
  have HM := hid hM
  have HOK := hid hOk
  have hMi : (M : Int) ≤ 1048576 := by omega
  have hbd := build64
  clear hO hM hOk hbase hBa
  go_enter Try.func8, Try.ntmps8
  go_upto_region 1 with fail
  refine wp_world fun wa HW => ?_
  have HR : Hid (Row wa w.heap.size [.int .u64 x0, .int .i64 x1, .int .i64 x2] 64) := by show Row _ _ _ _; rw [HW.out]; exact Row.new' _ _ _ _ _ rfl rfl
  have HBW : Hid (Below w.heap.size w wa) := by show Below _ _ _; rw [HW.out]; exact (Below.refl _ _).alloc (Nat.le_refl _) _
  clear HW
  obtain ⟨bx, hbx⟩ : ∃ bx, bx = w.heap.size := ⟨_, rfl⟩
  have HBX := hid hbx
  rw [← hbx] at HR ⊢
  clear hbx
  refine wp_region_still_tail 16 (by kernel_rfl) (by decide +kernel) ?_
  have HRq : Hid (Row { wa with drawn := wa.drawn + 1 } bx [.int .u64 x0, .int .i64 x1, .int .i64 x2] 64) := HR.out.drawn _
  have HBq : Hid (Below w.heap.size w { wa with drawn := wa.drawn + 1 }) := ⟨HBW.out.os, HBW.out.tape, HBW.out.output, HBW.out.size, HBW.out.block⟩
  generalize ({ wa with drawn := wa.drawn + 1 } : World) = wq at *
  have q0 := HRq.out.cell 0 _ rfl
  have q1 := HRq.out.cell 1 _ rfl
  have q2 := HRq.out.cell 2 _ rfl
  simp only [List.take_succ_cons, List.take_zero, List.drop_succ_cons, List.drop_zero]
  iterate 2 still_step
  still_call (HBA.out _)
  iterate 13 still_step
  refine wpStill_nil ?_
  have k1 : IntKind.i64.wrap (1 + IntKind.i64.wrap ((IntKind.u64.wrap x1).tmod 1073741824)) = 1 + C := by
    rw [Int.tmod_eq_emod_of_nonneg wc0, hC, IntKind.wrap_i64, IntKind.wrap_i64]
    omega
  have k2 : IntKind.i64.wrap (1 + IntKind.i64.wrap ((IntKind.u64.wrap x2).tmod 64)) = 1 + G := by
    rw [Int.tmod_eq_emod_of_nonneg wg0, hG, IntKind.wrap_i64, IntKind.wrap_i64]
    omega
  rw [k1, k2]
  clear k1 k2
  show wpList _ _ _ (Oper.mk none (.store 64 (.tmp 2) (.tmp 37)) _ _ _ _ :: _) _ _
  refine HRq.out.wpStore' 64 (.tmp 2) (.tmp 37) [.int .u64 base, .int .i64 (1 + C), .int .i64 (1 + G)] rfl rfl rfl rfl rfl (one3 _ _ _) i64' ?_
  intro wz HWZ
  have HRz : Hid (Row wz bx [.int .u64 base, .int .i64 (1 + C), .int .i64 (1 + G)] 64) := by show Row _ _ _ _; rw [HWZ.out]; exact HRq.out.row _
  have HBz : Hid (Below w.heap.size w wz) := by show Below _ _ _; rw [HWZ.out]; exact Go.below_setRow HBq.out (by rw [HBX.out]; exact Nat.le_refl _) _
  have z0 := HRz.out.cell 0 _ rfl
  have z1 := HRz.out.cell 1 _ rfl
  have z2 := HRz.out.cell 2 _ rfl
  have hNew := bnew_ok wz hb0 hb1 (room := 1 + C) (by omega) (by omega) (gaps := 1 + G) (by omega) (by omega) (fun _ => 0#8)
  clear HWZ HR HBW q0 q1 q2 HRq HBq HBA hbd hC hG wc0 wg0 hx0
  have HI0 : Hid (∀ w2 p b, BufAt w2 p (.slice none 0 0) b 0 (.map []) (Bf.zero base (1 + C) (1 + G)) (fun _ => 0#8) → Below wz.heap.size wz w2 → (∀ k, Foot p (.slice none 0 0) b (.map []) k → wz.heap.size ≤ k) → BL w w2 p base (1 + C) (1 + G) (Bf.zero base (1 + C) (1 + G)) (fun _ => 0#8) (fun x => Foot p (.slice none 0 0) b (.map []) x) bx 0) := fun w2 p b h1 h2 h3 =>
    ⟨⟨_, _, _, _, h1, fun _ h => h⟩, ⟨rfl, rfl, rfl, by simp [Bf.zero, total]⟩, HRz.out.kept h2 HRz.out.lt, fun x hx => ⟨Nat.le_trans HBz.out.size (h3 x hx), h1.foot_lt hx⟩, fun e => by have := h3 bx e; have := HRz.out.lt; omega, HBz.out.trans (h2.mono HBz.out.size)⟩
  have HNXT : Hid (∀ p W F f S, Buf W p F f S → Calls Try.prog 19 #[.pointer (some ⟨p, 0, none⟩)] W fun e w' => e = .returned (.int .u64 F.next) ∧ Below W.heap.size W w') := fun p W F f S hB => by obtain ⟨v', b', hR⟩ := hB.r; exact next_any hR
  have HEDG : Hid (∀ p W F f S, Buf W p F f S → Calls Try.prog 17 #[.pointer (some ⟨p, 0, none⟩)] W fun e w' => e = .returned (.int .u64 F.edge) ∧ ∃ q, w' = W.drewN q) := fun p W F f S hB => by obtain ⟨v', b', hR⟩ := hB.r; exact edge_any hR
  have HNR : Hid (∀ F : Bf, F.Ok → (0 ≤ F.next ∧ F.next ≤ 18446744073709551615) ∧ (0 ≤ F.edge ∧ F.edge ≤ 9223372036854775807) ∧ (0 ≤ total F.L ∧ total F.L ≤ 1073741824) ∧ F.read ≤ F.gap ∧ F.gap ≤ F.edge ∧ 0 ≤ F.read) := fun F k => by
    obtain ⟨g1, g2, g3⟩ := gap_edge k
    have h1 := k.rd; have h2 := k.b0; have h3 := k.r0; have h4 := k.rm2; have h5 := k.b1; have h6 := k.r1
    have h7 := next_ge F
    have h8 := next_le (F := F)
    have h9 := k.tot
    have h10 := (total_zero (fun r hr => (k.fit.1 r hr).2.1)).1
    unfold Bf.edge
    omega
  clear HRz HBz HBX
  go_wp2_with (first | (go_at_call 9; refine hNew.mono ?_; rintro e w2 ⟨p, b, rfl, hBu, hbu, hfo⟩; have HI2 := hid (HI0.out w2 p b hBu hbu hfo); clear hBu hbu hfo) | (go_at_call 19; refine (HNXT.out _ _ _ _ _ HI2.out.buf).mono ?_; rintro e w3 ⟨rfl, hb3⟩; have HI3 := hid (HI2.out.kept hb3); clear hb3) | (go_at_call 17; refine (HEDG.out _ _ _ _ _ HI3.out.buf).mono ?_; rintro e w4 ⟨rfl, q4, rfl⟩))
  have HI4 := hid (HI3.out.kept (below_drewN (Below.refl _ _) q4))
  generalize w3.drewN q4 = w4 at *
  obtain ⟨F0, hF0⟩ : ∃ F0, Bf.zero base (1 + C) (1 + G) = F0 := ⟨_, rfl⟩
  have hT0 : total F0.L = 0 := by rw [← hF0]; rfl
  have HT0 := hid hT0
  rw [hF0] at HI4 ⊢
  clear HI3 HI2 HI0 hF0 hT0 hNew z0 z1 z2
  go_loopw [7, 8, 9, 10] (fun s7 s8 s9 s10 wr => ∃ (i : Nat) (F : Bf) (f : Int → BitVec 8) (S : Nat → Prop), i ≤ M ∧ s10 = .int .i64 i ∧ s7 = .int .u64 F.next ∧ s8 = .int .u64 F.edge ∧ s9 = .int .u64 (total F.L) ∧ BL w wr p base (1 + C) (1 + G) F f S bx i) (fun _ _ _ s _ => M - (intOf s).toNat)
  case atStart => exact ⟨0, F0, _, _, Nat.zero_le _, rfl, rfl, rfl, by rw [HT0.out], HI4.out⟩
  case round =>
    obtain ⟨i, F, f, S, hi, rfl, rfl, rfl, rfl, hI⟩ := hrel
    have HI := hid hI
    clear hI HI4 HT0
    by_cases hlt : i < M
    · obtain ⟨gq, oq, rfl, hcl⟩ := (HO.out.kept HI.out.bel) i (by rw [HM.out]; exact hlt)
      have q0 : wr.cell? ⟨gq, oq + i * 5, none⟩ = some (.int .i64 (O[i]'(by rw [HM.out]; exact hlt)).kind) := hcl 0 _ rfl
      have q1 := hcl 1 _ rfl
      have q2 := hcl 2 _ rfl
      have q3 := hcl 3 _ rfl
      have q4 := hcl 4 _ rfl
      have HOI := hid (HOK.out (O[i]'(by rw [HM.out]; exact hlt)) (List.getElem_mem _))
      generalize O[i]'(by rw [HM.out]; exact hlt) = op at *
      obtain ⟨kd, sc, of, d, da, dc, n⟩ := op
      simp only at q0 q1 q2 q3 q4
      have hki : (i : Int) < (M : Int) := by omega
      clear hcl
      obtain ⟨N, hN⟩ : ∃ N, d.length = N := ⟨_, rfl⟩
      rw [hN] at q3
      have HN := hid hN
      clear hN
      go_upto_region 12 with fail
      refine wp_world fun wb HW => ?_
      have HXb : Hid (Row wb wr.heap.size [.int .i64 kd, .bool sc, .int .u64 of, .slice da N dc, .int .i64 n] 67) := by show Row _ _ _ _; rw [HW.out]; exact Row.new' _ _ _ _ _ rfl rfl
      have HBb : Hid (Below wr.heap.size wr wb) := by show Below _ _ _; rw [HW.out]; exact (Below.refl _ _).alloc (Nat.le_refl _) _
      have HIb : Hid (BL w wb p base (1 + C) (1 + G) F f S bx i) := HI.out.kept HBb.out
      have HBX : Hid (¬ S wr.heap.size) := fun e => Nat.lt_irrefl _ (HI.out.sb _ e).2
      clear HW HI q0 q1 q2 q3 q4
      obtain ⟨ob, hob⟩ : ∃ ob, ob = wr.heap.size := ⟨_, rfl⟩
      rw [← hob] at HXb HBX ⊢
      clear hob HBb
      have xk := HXb.out.cell 0 _ rfl
      go_upto_block 2 with fail
      clear xk
      go_cut [9, 12, 13, 14, 15, 16] from 58 to 284 (fun s9 _ _ _ _ _ wc => ∃ (F' : Bf) (f' : Int → BitVec 8) (S' : Nat → Prop), s9 = .int .u64 (total F'.L) ∧ F.next ≤ F'.next ∧ F.edge ≤ F'.edge ∧ BL w wc p base (1 + C) (1 + G) F' f' S' bx (i + 1))
      case first =>
        have x2 := HXb.out.cell 2 _ rfl
        have x3 := HXb.out.cell 3 _ rfl
        have x4 := HXb.out.cell 4 _ rfl
        obtain ⟨_, _, tt, _⟩ := HNR.out F HIb.out.buf.ok
        obtain ⟨tt0, tt1⟩ := tt
        by_cases k1 : kd = 1
        · as_aux_lemma =>
            subst k1
            obtain ⟨t1, ⟨t2, t2'⟩, t3, t4⟩ := tk_bd HIb.out.st HIb.out.buf.ok (off := of) (n := N) HOI.out.o0 (by have := HOI.out.dl; have := HN.out; simp only at *; omega)
            have hN9 : (N : Int) ≤ 1048576 := by have := HOI.out.dl; have := HN.out; simp only at *; omega
            have HTK : Hid (Calls Try.prog 11 #[.pointer (some ⟨p, 0, none⟩), .int .u64 of, .slice da N dc] wb fun e w' => e = .returned (.tuple #[.int .i64 (F.tkn of N), .int .i64 (F.refuses of N)]) ∧ w'.cell? ⟨ob, 3, none⟩ = some (.slice da N dc) ∧ ∃ S', BL w w' p base (1 + C) (1 + G) (F.tk of N) (F.tkf f of d) S' bx (i + 1)) := by
              refine (take_any2 HIb.out.buf (off := of) HOI.out.o0 HOI.out.o1 (d := d) (cap := dc) (by have := HOI.out.lc; simpa using this) HOI.out.cm (HOI.out.byt.kept HIb.out.bel) N HN.out (fun hne g o e hs => ?_)).mono ?_
              · have h5 := HOI.out.lt (by have := HN.out; simp only; omega) g o e
                have h6 := (HIb.out.sb g hs).1
                omega
              · rintro e w' ⟨rfl, S5, r1, r2, r3⟩
                exact ⟨rfl, (r2.row HXb.out HBX.out).cell 3 _ rfl, _, HIb.out.turn r1 r2 r3 t1⟩
            have HT3 := hid t3
            have HT4 := hid t4
            generalize F.tkn of N = tn at *
            generalize F.refuses of N = rf at *
            generalize total F.L = tF at *
            have u1 : ¬ tn < 0 := by omega
            have u2 : ¬ (N : Int) < tn := by omega
            clear t1 t3 t4
            go_wp2_with (go_at_call 11; refine HTK.out.mono ?_; rintro e w3 ⟨rfl, y3, S5, hL5⟩; have HL5 := hid hL5; clear hL5)
            go_meet
            exact ⟨_, _, _, by rw [HT3.out], HT4.out, by rw [(tk_edge F of N).1]; exact Int.le_refl _, HL5.out⟩
        · by_cases k2 : kd = 2
          · as_aux_lemma =>
              subst k2
              obtain ⟨t1, t2, t3⟩ := end_bd HIb.out.st of
              have HTK : Hid (Calls Try.prog 18 #[.pointer (some ⟨p, 0, none⟩), .int .u64 of] wb fun e w' => e = .returned (.int .i64 (F.finE of)) ∧ ∃ S', BL w w' p base (1 + C) (1 + G) (F.endAt of) f S' bx (i + 1)) := by
                refine (finB_any HIb.out.buf of HOI.out.o0).mono ?_
                rintro e w' ⟨rfl, r1, r2⟩
                exact ⟨rfl, _, HIb.out.turn r1 r2 (fun x hx => .inl hx) t1⟩
              have HT3 := hid (And.intro t2 t3)
              clear t1 t2 t3
              go_wp2_with (go_at_call 18; refine HTK.out.mono ?_; rintro e w3 ⟨rfl, S5, hL5⟩; have HL5 := hid hL5; clear hL5)
              go_meet
              exact ⟨_, _, _, by rw [HT3.out.1], HT3.out.2, by rw [(end_room F of).1]; exact Int.le_refl _, HL5.out⟩
          · by_cases k3 : kd = 3
            · as_aux_lemma =>
                subst k3
                have hm : F.read + F.room ≤ F.base + 2305843009213693952 := by have := HIb.out.st.sm; have := HIb.out.st.bs; have := HIb.out.st.rm; omega
                obtain ⟨t1, t2, t3, t4, t5⟩ := rd_bd (f := f) HIb.out.st HIb.out.buf.ok n hm
                have HTK : Hid (Calls Try.prog 12 #[.pointer (some ⟨p, 0, none⟩), .int .i64 n] wb fun e w' => ∃ a en er, e = .returned (.tuple #[.slice a (F.rdB f n).length (F.rdB f n).length, .bool en, .int .i64 er]) ∧ ∃ S', BL w w' p base (1 + C) (1 + G) (F.rdOn n) f S' bx (i + 1)) := by
                  refine (read_all HIb.out.buf n HOI.out.n1 hm).mono ?_
                  rintro e w' ⟨a, en, er, rfl, S5, r1, r2, r3⟩
                  exact ⟨a, en, er, rfl, _, HIb.out.turn r1 r2 r3 t1⟩
                obtain ⟨_, _, vv, _⟩ := HNR.out (F.rdOn n) (by
                  unfold Bf.rdOn
                  split
                  · exact HIb.out.buf.ok
                  · exact readOn_ok HIb.out.buf.ok (by omega) hm)
                obtain ⟨vv0, _⟩ := vv
                rw [t2] at vv0
                have HT3 := hid (And.intro t2 (And.intro t3 t4))
                have hrm : F.room ≤ 1073741824 := HIb.out.buf.ok.r1
                obtain ⟨m, hmm⟩ : ∃ m, (F.rdB f n).length = m := ⟨_, rfl⟩
                rw [hmm] at HTK HT3 vv0 t5
                have hm9 : (m : Int) ≤ 1073741824 := by omega
                generalize total F.L = tF at *
                clear t1 t2 t3 t4 t5 hm hmm
                go_wp2_with (go_at_call 12; refine HTK.out.mono ?_; rintro e w3 ⟨a, en, er, rfl, S5, hL5⟩; have HL5 := hid hL5; clear hL5)
                go_meet
                exact ⟨_, _, _, by rw [HT3.out.1], HT3.out.2.1, HT3.out.2.2, HL5.out⟩
            · as_aux_lemma =>
              go_wp2_with fail
              go_meet
              exact ⟨F, f, S, rfl, Int.le_refl _, Int.le_refl _, HIb.out.on HIb.out.st.on⟩
      case rest =>
       as_aux_lemma =>
        obtain ⟨F', f', S', rfl, hn', he', hI'⟩ := hcut
        have HI := hid hI'
        have HSR := hid (And.intro hI'.st.bs (And.intro hI'.st.rm hI'.st.gp))
        have HST : Hid (Calls Try.prog 16 #[.pointer (some ⟨p, 0, none⟩)] wc fun e w' => ∃ gg, e = .returned (.agg #[.int .u64 base, .int .i64 (1 + C), .int .i64 (1 + G), .int .u64 F'.read, .int .u64 F'.gap, .slice (some ⟨gg, 0, none⟩) F'.L.length F'.L.length, .int .u64 F'.fin, .bool F'.ends]) ∧ w'.heap[gg]? = some (.cells (flat F'.L).toArray 50 (0, 0)) ∧ Below wc.heap.size wc w') := by
          obtain ⟨v', b', hR⟩ := hI'.buf.r
          refine (state_any hR).mono ?_
          rintro e w' ⟨sv, rfl, ⟨gg, rfl, hgg1, hgg2⟩, hb4⟩
          exact ⟨gg, by unfold StV; rw [HSR.out.1, HSR.out.2.1, HSR.out.2.2], hgg2, hb4⟩
        have HOKF := hid hI'.buf.ok
        clear hI' HIb HXb HBX HOI HN
        go_upto_region 24 with (go_at_call 16; refine HST.out.mono ?_; rintro e w4 ⟨gg, rfl, hgg2, hb4⟩; have HG4 := hid hgg2; have HI4 := hid (HI.out.kept hb4); clear hgg2 hb4)
        refine wp_world fun wt HW => ?_
        have HTB : Hid (Row wt w4.heap.size [.int .u64 base, .int .i64 (1 + C), .int .i64 (1 + G), .int .u64 F'.read, .int .u64 F'.gap, .slice (some ⟨gg, 0, none⟩) F'.L.length F'.L.length, .int .u64 F'.fin, .bool F'.ends] 47) := by show Row _ _ _ _; rw [HW.out]; exact Row.new' _ _ _ _ _ rfl rfl
        have HB4 : Hid (Below w4.heap.size w4 wt) := by show Below _ _ _; rw [HW.out]; exact (Below.refl _ _).alloc (Nat.le_refl _) _
        have HI5 := hid (HI4.out.kept HB4.out)
        have HG5 : Hid (wt.heap[gg]? = some (.cells (flat F'.L).toArray 50 (0, 0))) := (HB4.out.block gg (Array.getElem?_eq_some_iff.1 HG4.out).1).trans HG4.out
        clear HW HB4 HG4 HI4 HST HI
        obtain ⟨tb, htb⟩ : ∃ tb, tb = w4.heap.size := ⟨_, rfl⟩
        rw [← htb] at HTB ⊢
        clear htb
        have HE : Hid (∀ d os, Calls Try.prog 17 #[.pointer (some ⟨p, 0, none⟩)] (grow (redrawn wt d) os) fun e w'' => e = .returned (.int .u64 F'.edge) ∧ ∃ q : Regrown, w'' = grow (redrawn wt q.d) q.os) := fun d os => Calls.regrown_of ((HEDG.out p _ F' f' S' (HI5.out.buf.kept (below_regrown wt d os))).mono (by rintro e w'' ⟨rfl, q, rfl⟩; exact ⟨rfl, below_drewN (Below.refl _ _) q⟩))
        have HX : Hid (∀ d os, Calls Try.prog 19 #[.pointer (some ⟨p, 0, none⟩)] (grow (redrawn wt d) os) fun e w'' => e = .returned (.int .u64 F'.next) ∧ ∃ q : Regrown, w'' = grow (redrawn wt q.d) q.os) := fun d os => Calls.regrown_of (HNXT.out p _ F' f' S' (HI5.out.buf.kept (below_regrown wt d os)))
        have t0 := cell_regrown (HTB.out.cell 0 _ rfl)
        have t1 := cell_regrown (HTB.out.cell 1 _ rfl)
        have t2 := cell_regrown (HTB.out.cell 2 _ rfl)
        have t3 := cell_regrown (HTB.out.cell 3 _ rfl)
        have t4 := cell_regrown (HTB.out.cell 4 _ rfl)
        have s0 := cell_regrown (HI5.out.row.cell 0 _ rfl)
        have s1 := cell_regrown (HI5.out.row.cell 1 _ rfl)
        have s2 := cell_regrown (HI5.out.row.cell 2 _ rfl)
        obtain ⟨⟨n0, n1⟩, ⟨e0, e1⟩, ⟨tt0, tt1⟩, rg, ge, r0⟩ := HNR.out F' HOKF.out
        have v1 : ¬ F'.gap < F'.read := by omega
        have v2 : ¬ F'.edge < F'.gap := by omega
        have v3 : IntKind.u64.wrap (F'.read + IntKind.u64.wrap (1 + C)) = F'.edge := by rw [IntKind.wrap_u64, IntKind.wrap_u64]; have := HSR.out.2.1; unfold Bf.edge at e1 ⊢; omega
        have v4 : ¬ F'.next < F.next := by omega
        have v5 : ¬ F'.edge < F.edge := by omega
        have v6 : F'.read ≤ 9223372036854775807 := by omega
        go_cut [172] from 58 to 284 (fun s172 wd => s172 = .bool false ∧ Below wt.heap.size wt wd)
        case first =>
          as_aux_lemma =>
            refine wp_region_quiet_below (by kernel_rfl) (by decide +kernel) ?_
            iterate 56 (quiet_step (first | (go_at_call 17; exact HE.out _ _) | (go_at_call 19; exact HX.out _ _)))
            refine wpQuiet_nil ?_
            intro w6 hw'
            have HB6 : Hid (Below wt.heap.size wt w6) := by obtain ⟨⟨dq, osq⟩, hw''⟩ := hw'; show Below _ _ _; rw [hw'']; exact below_regrown wt dq osq
            go_wp2_with fail
            go_meet
            exact ⟨rfl, HB6.out⟩
        case rest =>
        as_aux_lemma =>
        obtain ⟨rfl, hb6⟩ := hcut
        obtain ⟨w6, hw6⟩ : ∃ w6, w6 = wc := ⟨_, rfl⟩
        rw [← hw6] at hb6 ⊢
        have HB6 := hid hb6
        clear hw6 hb6 HE HX t0 t1 t2 t3 t4 s0 s1 s2
        have HI6 := hid (HI5.out.kept HB6.out)
        have HT6 := hid (HTB.out.kept HB6.out HTB.out.lt)
        have HG6 : Hid (w6.heap[gg]? = some (.cells (flat F'.L).toArray 50 (0, 0))) := (HB6.out.block gg (Array.getElem?_eq_some_iff.1 HG5.out).1).trans HG5.out
        clear HB6 HI5 HTB HG5
        go_upto_block 3 with (first | (go_at_call 19; refine (HNXT.out _ _ _ _ _ HI6.out.buf).mono ?_; rintro e w7 ⟨rfl, hb7⟩; have HB7 := hid hb7; clear hb7) | (go_at_call 17; refine (HEDG.out _ _ _ _ _ (HI6.out.buf.kept HB7.out)).mono ?_; rintro e w8 ⟨rfl, q8, rfl⟩))
        have HB8 := hid (below_drewN HB7.out q8)
        have HI8 := hid (HI6.out.kept HB8.out)
        have HT8 := hid (HT6.out.kept HB8.out HT6.out.lt)
        have HG8 : Hid ((w7.drewN q8).heap[gg]? = some (.cells (flat F'.L).toArray 50 (0, 0))) := (HB8.out.block gg (Array.getElem?_eq_some_iff.1 HG6.out).1).trans HG6.out
        generalize w7.drewN q8 = w8 at *
        clear HB7 HB8 HI6 HT6 HG6
        obtain ⟨nl, hnl⟩ : ∃ nl, F'.L.length = nl := ⟨_, rfl⟩
        rw [hnl] at HT8
        have hn65 : (nl : Int) ≤ 65 := by have := HOKF.out.len; omega
        have HNL := hid hnl
        clear hnl
        go_wp2_with fail
        go_loopw [18, 19, 20, 21] (fun s18 s19 s20 _ wr => ∃ k : Nat, k ≤ nl ∧ s20 = .int .i64 k ∧ s18 = .int .u64 (total (F'.L.take k)) ∧ s19 = .int .i64 (F'.ap k) ∧ Below w8.heap.size w8 wr) (fun _ _ s _ _ => nl - (intOf s).toNat)
        case atStart => exact ⟨0, Nat.zero_le _, rfl, rfl, by rw [ap_zero], Below.refl _ _⟩
        case round =>
         as_aux_lemma =>
          obtain ⟨k, hk, rfl, rfl, rfl, hb⟩ := hrel
          have HBr := hid hb
          have HT := hid (HT8.out.kept hb HT8.out.lt)
          have HG : Hid (wr.heap[gg]? = some (.cells (flat F'.L).toArray 50 (0, 0))) := (hb.block gg (Array.getElem?_eq_some_iff.1 HG8.out).1).trans HG8.out
          clear hb
          by_cases hkl : k < nl
          · have hkL : k < F'.L.length := by rw [HNL.out]; exact hkl
            obtain ⟨⟨a0, a1, a2, a3, a4⟩, a5, a6, a7⟩ := HOKF.out.at_ hkL
            obtain ⟨p1, p2, p3, p4⟩ := ap_next HOKF.out hkL
            have c0 : wr.cell? ⟨gg, k * 2, none⟩ = some (.int .u64 F'.L[k].1) := by rw [cell_of_row wr gg _ _ _ _ HG.out, ← (flat_get F'.L k hkL).1]; simp
            have c1 : wr.cell? ⟨gg, k * 2 + 1, none⟩ = some (.int .u64 F'.L[k].2) := by rw [cell_of_row wr gg _ _ _ _ HG.out, ← (flat_get F'.L k hkL).2]; simp
            have t5 := HT.out.cell 5 _ rfl
            have hki : (k : Int) < nl := by omega
            have HPV : Hid (0 < k → ∃ ph : Int, ph < F'.L[k].1 ∧ ∀ W, Below wr.heap.size wr W → W.cell? ⟨gg, (k - 1) * 2 + 1, none⟩ = some (.int .u64 ph)) := fun h0 => ⟨F'.L[k - 1].2, a5 (k - 1) (by omega), fun W hW => cell_kept hW (by rw [cell_of_row wr gg _ _ _ _ HG.out, ← (flat_get F'.L (k - 1) (by omega)).2]; simp)⟩
            have hts := total_snoc F'.L k hkL
            have htn := total_nn HOKF.out.fit k
            have HA4 := hid a4
            have HA67 := hid (And.intro a6 a7)
            have HP12 := hid (And.intro p1 p2)
            have HTS := hid hts
            generalize F'.L[k].1 = rl at *
            generalize F'.L[k].2 = rh at *
            obtain ⟨tk, htk⟩ : ∃ tk, total (F'.L.take k) = tk := ⟨_, rfl⟩
            rw [htk] at htn HTS ⊢
            obtain ⟨ak, hak⟩ : ∃ ak, F'.ap k = ak := ⟨_, rfl⟩
            rw [hak] at p3 p4 HP12 ⊢
            obtain ⟨tn0, tn1⟩ := htn
            clear a4 a5 a6 a7 p1 p2 hts htk hak
            go_upto_region 34 with fail
            refine wp_world fun wu HW => ?_
            have HRB : Hid (Row wu wr.heap.size [.int .u64 rl, .int .u64 rh] 50) := by show Row _ _ _ _; rw [HW.out]; exact Row.new' _ _ _ _ _ rfl rfl
            have HBu : Hid (Below wr.heap.size wr wu) := by show Below _ _ _; rw [HW.out]; exact (Below.refl _ _).alloc (Nat.le_refl _) _
            have HTu := hid (HT.out.kept HBu.out HT.out.lt)
            obtain ⟨rb, hrb⟩ : ∃ rb, rb = wr.heap.size := ⟨_, rfl⟩
            rw [← hrb] at HRB ⊢
            clear HW hrb c0 c1 t5
            go_cut [233] from 177 to 252 (fun s233 wd => s233 = .bool false ∧ Below wu.heap.size wu wd)
            case first =>
              have b0 := cell_regrown (HRB.out.cell 0 _ rfl)
              have b1 := cell_regrown (HRB.out.cell 1 _ rfl)
              have y3 := cell_regrown (HTu.out.cell 3 _ rfl)
              have y5 := cell_regrown (HTu.out.cell 5 _ rfl)
              have y6 := cell_regrown (HTu.out.cell 6 _ rfl)
              have y7 := cell_regrown (HTu.out.cell 7 _ rfl)
              have o1 : ¬ rh ≤ rl := by omega
              have o2 : ¬ rl < F'.read := by omega
              have o3 : ¬ F'.edge < rh := by omega
              by_cases hen : F'.ends = true
              · rw [hen] at y7
                have o4 : ¬ F'.fin < rh := by have := HA4.out hen; omega
                by_cases h0 : 0 < k
                · as_aux_lemma =>
                    obtain ⟨ph, hph, hpc⟩ := HPV.out h0
                    have y8 : ∀ d os, (grow (redrawn wu d) os).cell? ⟨gg, (k - 1) * 2 + 1, none⟩ = some (.int .u64 ph) := fun d os => hpc _ (HBu.out.trans ((below_regrown wu d os).mono HBu.out.size))
                    have o5 : ¬ rl ≤ ph := by omega
                    have o6 : (0 : Int) < k := by omega
                    have o11 : (1 : Int) ≤ k := by omega
                    have o7 : IntKind.i64.wrap ((k : Int) - 1) = (k : Int) - 1 := by rw [IntKind.wrap_i64]; omega
                    have o8 : ((k : Int) - 1).toNat = k - 1 := by omega
                    have o9 : (0 : Int) ≤ (k : Int) - 1 := by omega
                    have o10 : (k : Int) - 1 < nl := by omega
                    refine wp_region_quiet_below (by kernel_rfl) (by decide +kernel) ?_
                    iterate 22 (quiet_step (fail))
                    iterate 6 (quiet_step (fail))
                    iterate 5 (quiet_step (fail))
                    iterate 11 (quiet_step (fail))
                    quiet_step (fail)
                    refine wpQuiet_nil ?_
                    intro w9 hw'
                    have HB9 : Hid (Below wu.heap.size wu w9) := by obtain ⟨⟨dq, osq⟩, hw''⟩ := hw'; show Below _ _ _; rw [hw'']; exact below_regrown wu dq osq
                    go_wp2_with fail
                    go_meet
                    exact ⟨rfl, HB9.out⟩
                · as_aux_lemma =>
                    have HZ2 : Hid (¬ 0 < k) := h0
                    clear h0
                    refine wp_region_quiet_below (by kernel_rfl) (by decide +kernel) ?_
                    iterate 22 (quiet_step (fail))
                    iterate 6 (quiet_step (fail))
                    iterate 5 (quiet_step (fail))
                    iterate 11 (refine wpQuiet_step (fun K hK => ?_); go_simp; rw [if_neg HZ2.out]; refine hK _ ?_; clear hK K)
                    quiet_step (fail)
                    refine wpQuiet_nil ?_
                    intro w9 hw'
                    have HB9 : Hid (Below wu.heap.size wu w9) := by obtain ⟨⟨dq, osq⟩, hw''⟩ := hw'; show Below _ _ _; rw [hw'']; exact below_regrown wu dq osq
                    go_wp2_with fail
                    go_meet
                    exact ⟨rfl, HB9.out⟩
              · have HE := hid hen
                clear hen
                by_cases h0 : 0 < k
                · as_aux_lemma =>
                    obtain ⟨ph, hph, hpc⟩ := HPV.out h0
                    have y8 : ∀ d os, (grow (redrawn wu d) os).cell? ⟨gg, (k - 1) * 2 + 1, none⟩ = some (.int .u64 ph) := fun d os => hpc _ (HBu.out.trans ((below_regrown wu d os).mono HBu.out.size))
                    have o5 : ¬ rl ≤ ph := by omega
                    have o6 : (0 : Int) < k := by omega
                    have o11 : (1 : Int) ≤ k := by omega
                    have o7 : IntKind.i64.wrap ((k : Int) - 1) = (k : Int) - 1 := by rw [IntKind.wrap_i64]; omega
                    have o8 : ((k : Int) - 1).toNat = k - 1 := by omega
                    have o9 : (0 : Int) ≤ (k : Int) - 1 := by omega
                    have o10 : (k : Int) - 1 < nl := by omega
                    refine wp_region_quiet_below (by kernel_rfl) (by decide +kernel) ?_
                    iterate 22 (quiet_step (fail))
                    iterate 6 (refine wpQuiet_step (fun K hK => ?_); go_simp; rw [if_neg HE.out]; refine hK _ ?_; clear hK K)
                    iterate 5 (quiet_step (fail))
                    iterate 11 (quiet_step (fail))
                    quiet_step (fail)
                    refine wpQuiet_nil ?_
                    intro w9 hw'
                    have HB9 : Hid (Below wu.heap.size wu w9) := by obtain ⟨⟨dq, osq⟩, hw''⟩ := hw'; show Below _ _ _; rw [hw'']; exact below_regrown wu dq osq
                    go_wp2_with fail
                    go_meet
                    exact ⟨rfl, HB9.out⟩
                · as_aux_lemma =>
                    have HZ2 : Hid (¬ 0 < k) := h0
                    clear h0
                    refine wp_region_quiet_below (by kernel_rfl) (by decide +kernel) ?_
                    iterate 22 (quiet_step (fail))
                    iterate 6 (refine wpQuiet_step (fun K hK => ?_); go_simp; rw [if_neg HE.out]; refine hK _ ?_; clear hK K)
                    iterate 5 (quiet_step (fail))
                    iterate 11 (refine wpQuiet_step (fun K hK => ?_); go_simp; rw [if_neg HZ2.out]; refine hK _ ?_; clear hK K)
                    quiet_step (fail)
                    refine wpQuiet_nil ?_
                    intro w9 hw'
                    have HB9 : Hid (Below wu.heap.size wu w9) := by obtain ⟨⟨dq, osq⟩, hw''⟩ := hw'; show Below _ _ _; rw [hw'']; exact below_regrown wu dq osq
                    go_wp2_with fail
                    go_meet
                    exact ⟨rfl, HB9.out⟩
            case rest =>
             as_aux_lemma =>
              obtain ⟨rfl, hb9⟩ := hcut
              have HB9 := hid (HBr.out.trans ((HBu.out.trans (hb9.mono HBu.out.size)).mono HBr.out.size))
              have HR9 := hid (HRB.out.kept hb9 HRB.out.lt)
              have HT9 := hid (HTu.out.kept hb9 HTu.out.lt)
              have b0 := HR9.out.cell 0 _ rfl
              have b1 := HR9.out.cell 1 _ rfl
              have y3 := HT9.out.cell 3 _ rfl
              have y4 := HT9.out.cell 4 _ rfl
              clear hb9 HRB HTu HPV HA4 HT HG
              have w1 : IntKind.u64.wrap (tk + rh) = tk + rh := by rw [IntKind.wrap_u64]; omega
              have w2 : IntKind.u64.wrap (tk + rh - rl) = tk + rh - rl := by rw [IntKind.wrap_u64]; omega
              have ak9 : ak ≤ 65 := by omega
              by_cases hrl : rl = F'.read
              · obtain rfl : rh = F'.gap := HA67.out.2 hrl
                subst hrl
                go_wp2_with fail
                go_roundw
                case rel => exact ⟨k + 1, hkl, by go_num, by rw [HTS.out]; congr 1; omega, by rw [HP12.out.1 rfl], HB9.out⟩
                case measure => simp [intOf]; omega
              · go_wp2_with fail
                go_roundw
                case rel => exact ⟨k + 1, hkl, by go_num, by rw [HTS.out]; congr 1; omega, by rw [HP12.out.2 hrl], HB9.out⟩
                case measure => simp [intOf]; omega
          · as_aux_lemma =>
            obtain rfl : k = nl := by omega
            have hki : ¬ (k : Int) < (k : Int) := by omega
            have HIr := hid (HI8.out.kept HBr.out)
            have y3 := HT.out.cell 3 _ rfl
            have y4 := HT.out.cell 4 _ rfl
            have y5 := HT.out.cell 5 _ rfl
            have s1 := HIr.out.row.cell 1 _ rfl
            have s2 := HIr.out.row.cell 2 _ rfl
            have htl : F'.L.take k = F'.L := by rw [← HNL.out]; exact List.take_length
            have hap : F'.ap k = F'.apart := by rw [← HNL.out]; exact ap_all HOKF.out
            rw [htl, hap]
            have z1 : ¬ 1 + G < F'.apart := by have := HOKF.out.few; have := HSR.out.2.2; omega
            have hhf := HOKF.out.half
            rw [HNL.out, HSR.out.2.1] at hhf
            have z2 : ¬ (1 + C + 1) / 2 < (k : Int) := by omega
            have z2' : ¬ (1 + C + 1).tdiv 2 < (k : Int) := by rw [Int.tdiv_eq_ediv_of_nonneg (by omega)]; exact z2
            have hpq := apart_eq F'
            rw [HNL.out, decide_eq_decide] at hpq
            have HPQ := hid hpq
            generalize F'.apart = ap at *
            clear htl hap hhf hpq
            by_cases hgr : F'.gap = F'.read
            · have hka := HPQ.out.1 hgr
              subst hka
              go_wp2_with fail
              go_roundw
              case rel => exact ⟨i + 1, F', f', S', hlt, by go_num, rfl, rfl, rfl, HIr.out⟩
              case measure => simp [intOf]; omega
            · have hka : ¬ (k : Int) = ap := fun e => hgr (HPQ.out.2 e)
              have hka2 : ((k : Int) == ap) = false := by simpa using hka
              have hgr2 : (F'.gap == F'.read) = false := by simpa using hgr
              go_wp2_with fail
              go_roundw
              case rel => exact ⟨i + 1, F', f', S', hlt, by go_num, rfl, rfl, rfl, HIr.out⟩
              case measure => simp [intOf]; omega
    · as_aux_lemma =>
      obtain rfl : i = M := by omega
      have hki : ¬ (i : Int) < (i : Int) := by omega
      have hAl := alive_any wr
      have hbel := hid HI.out.bel
      go_wp2_with (go_at_call 13; refine hAl.mono ?_; rintro e w3 ⟨rfl, hb3⟩; have HB3 := hid hb3; clear hb3)
      go_ret
      exact ⟨rfl, hbel.out.trans (HB3.out.mono hbel.out.size)⟩
end Go.Proofs.Ytimiokbnhneggaa
