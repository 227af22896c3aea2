import Derived.Test.YtnohammflhadpaaSb43
import Derived.Deep.RegionHeld3
import Derived.Deep.CutRange
namespace Go.Proofs.Ytnohammflhadpaa
open Go.RowKit Go.Maps Go.Sort
set_option maxRecDepth 100000

/-- A piece of a slice of bytes. -/
theorem slice_lh (a : Option Addr) (A c f l : Nat) (h : f + l ≤ c) : ∃ ax, (∀ W, (Instr.slice 25 (.slice a A c) (some (.int .u64 (f : Int))) (some (.int .u64 ((f : Int) + l))) none).run Try.prog W = .ok (.slice ax l (c - f)) W) ∧ ∀ W all, f + l ≤ List.length all → BytesAt W a all → BytesAt W ax ((all.drop f).take l) := by
  refine ⟨if c = f then a else a.map (·.add (f * 1)), fun W => ?_, fun W all hl hB k hk => ?_⟩
  · have h1 : ((f : Int) + l).toNat = f + l := by omega
    rw [run_slice_lh (P := Try.prog) W 25 a A c Try.underlying25 .u64 .u64 (f : Int) ((f : Int) + l) (by omega) (by omega) (by omega)]
    rw [h1]
    simp [sliced, go_sem]
  · have hk' : k < l := by rw [List.length_take] at hk; omega
    obtain ⟨g, o, rfl, hc⟩ := hB (f + k) (by omega)
    refine ⟨g, o + f, by rw [if_neg (by omega)]; simp [Addr.add], ?_⟩
    rw [List.getElem_take, List.getElem_drop]
    rw [Nat.add_assoc]
    exact hc
theorem free_bd {F : Sb} (h : F.Ok) : 0 ≤ F.free ∧ F.free ≤ 65536 := by
  have := h.fr; have := h.r1; have := h.r0; have := h.a0
  unfold Sb.free
  omega
theorem takes_eq {F : Sb} (h : F.Ok) {N n : Nat} (hn : F.takesG N = n) : (F.closed = true → n = 0) ∧ (F.closed = false → (n : Int) = min (min (N : Int) F.free) (4611686018427387904 - F.end_)) ∧ n ≤ N ∧ n ≤ 65536 := by
  have h1 := free_bd h
  have h2 := h.e1
  unfold Sb.takesG Sb.takes at hn
  refine ⟨fun e => ?_, fun e => ?_, ?_, ?_⟩
  · rw [if_pos e] at hn; exact hn.symm
  · rw [if_neg (by rw [e]; decide)] at hn; omega
  · split at hn <;> omega
  · split at hn <;> omega
/-- What holds of a chunk at its place in a stream whose chunks are a text's. -/
structure KpC (F : Sb) (b : Int) (all : List (BitVec 8)) (j f l : Nat) (fin : Bool) : Prop where
  off : ∀ h : j < F.L.length, F.L[j].off = b + (f : Int)
  len : ∀ h : j < F.L.length, F.L[j].bs.length = l
  fi : ∀ h : j < F.L.length, F.L[j].fin = fin
  bs : ∀ h : j < F.L.length, F.L[j].bs = (all.drop f).take l
  le : f + l ≤ all.length
  nz : fin = decide (l = 0)
  nxt : ∀ h : j + 1 < F.L.length, F.L[j + 1].off = b + (f : Int) + l
  las : j + 1 = F.L.length → b + (f : Int) + l = b + all.length
  end_ : fin = true → j + 1 = F.L.length ∧ F.closed = true
theorem kpC {F : Sb} {b : Int} {all : List (BitVec 8)} (ok : F.Ok) (ht : TriOk b all F.tri) (he : F.end_ = b + all.length) {j : Nat} (hj : j < F.L.length) : ∃ f l fin, KpC F b all j f l fin := by
  obtain ⟨h1, h2, h3, h4⟩ := ht F.L[j].tri (List.mem_map.2 ⟨_, List.getElem_mem hj, rfl⟩)
  have h1 : b ≤ F.L[j].off := h1
  have h2 : F.L[j].off + F.L[j].bs.length ≤ b + all.length := h2
  have h3 : F.L[j].bs = (all.drop (F.L[j].off - b).toNat).take F.L[j].bs.length := h3
  have h4 : F.L[j].fin = decide (F.L[j].bs = []) := h4
  refine ⟨(F.L[j].off - b).toNat, F.L[j].bs.length, F.L[j].fin, fun _ => by omega, fun _ => rfl, fun _ => rfl, fun _ => h3, by omega, ?_, fun h => ?_, fun h => ?_, fun e => ?_⟩
  · rw [h4]
    have : (F.L[j].bs = []) = (F.L[j].bs.length = 0) := propext List.length_eq_zero_iff.symm
    simp only [this]
  · have := ok.ch j h
    omega
  · have := ok.la F.L[j] (by rw [List.getLast?_eq_getElem?, show F.L.length - 1 = j by omega, List.getElem?_eq_getElem hj])
    omega
  · have hck := ok.ck _ (List.getElem_mem hj)
    obtain ⟨e1, e2⟩ := hck.fin e
    refine ⟨?_, ?_⟩
    · by_cases hn : j + 1 < F.L.length
      · have h5 := ok.ch j hn
        have h6 := List.pairwise_iff_getElem.1 ok.so j (j + 1) hj hn (by omega)
        rw [e1] at h5
        simp at h5
        omega
      · omega
    · by_cases hc : F.closed = true
      · exact hc
      · have := ok.cl (by simpa using hc) _ (List.getElem_mem hj)
        rw [e] at this
        cases this
set_option maxHeartbeats 8000000 in
theorem keeps_law {w : World} {base room mss edge b r m : Int} (h0 : 0 ≤ base) (h1 : 0 ≤ edge) (h2 : edge ≤ 18446744073709551615) (hb : min base 4611686018427387904 = b) (hr : max 1 (min room 65536) = r) (hm : max 1 (min mss 1024) = m) {ao : Option Addr} {Os : List (OpQ × Wt)} (co : Nat) (hO : OpwAt w ao Os) (hOl : Os.length ≤ 1048576) :
    Calls Try.prog 7 #[.agg #[.int .u64 base, .int .i64 room, .int .i64 mss, .int .u64 edge], .slice ao Os.length co] w fun e w' => e = .returned (.bool true) ∧ Below w.heap.size w w' := by
  have hbx : Below w.heap.size w (w.alloc (.cells #[.int .u64 base, .int .i64 room, .int .i64 mss, .int .u64 edge] 24)) := (Below.refl _ _).alloc (Nat.le_refl _) _
  have hR := Row.new w [.int .u64 base, .int .i64 room, .int .i64 mss, .int .u64 edge] 24
  have c0 := hR.cell 0 _ rfl
  have c1 := hR.cell 1 _ rfl
  have c2 := hR.cell 2 _ rfl
  have c3 := hR.cell 3 _ rfl
  have HBX := hid hbx
  have HO := hid hO
  have hb0 : 0 ≤ b := by omega
  clear hbx hR hO
  obtain ⟨NO, hNO⟩ : ∃ NO, Os.length = NO := ⟨_, rfl⟩
  have HNO := hid hNO
  rw [hNO] at hOl ⊢
  clear hNO
  have hOi : (NO : Int) ≤ 1048576 := by omega
  go_enter Try.func7, Try.ntmps7
  go_wp2_with fail
  refine (new_any _ h0 h1 h2 hb hr hm).mono ?_
  rintro e w1 ⟨p, rfl, hs1, hb1, hp1⟩
  have HW1 : Hid (KpS w p (Sb.mk1 b r m edge) b [] [] (.slice none 0 0) (fun _ => False) w1) := ⟨⟨_, bf_new hs1 rfl, fun y hy => by subst hy; exact Nat.le_trans HBX.out.size hp1, fun y hy => hy.elim, fun y hy => by simp [Value.ownBlock] at hy⟩, ⟨rfl, .inl ⟨rfl, rfl⟩⟩, ⟨fun c1 => (by cases c1), fun _ => Int.le_refl _⟩, HBX.out.trans (hb1.mono HBX.out.size), fun x hx => by simp [Sb.tri, Sb.mk1] at hx, by simp [Sb.mk1]⟩
  have hcl : (Sb.mk1 b r m edge).closed = false := rfl
  have hee : (Sb.mk1 b r m edge).end_ = b := rfl
  have HCL := hid hcl
  clear hs1 hb1 hp1 HBX c0 c1 c2 c3 hb hr hm h0 h1 h2 hcl
  generalize Sb.mk1 b r m edge = F0 at *
  go_wp2_with (first | (go_at_call 10; refine (awake_any _).mono ?_; rintro e w2 ⟨rfl, hb2⟩; have HW2 := hid (HW1.out.kept hb2); clear hb2) | (go_at_call 15; refine HW2.out.endc.mono ?_; rintro e w3 ⟨rfl, h3⟩; rw [h3, hee]; clear h3))
  clear HW1 hee
  go_loopw [7, 8, 38] (fun s7 s8 s38 wr => ∃ (i : Nat) (F : Sb) (cl : Bool) (all : List (BitVec 8)), i ≤ NO ∧ s38 = .int .i64 i ∧ s8 = .bool cl ∧ Hid (F.closed = cl) ∧ Hid (all.length ≤ i * 65536) ∧ Hid (KpS w p F b all all s7 (fun _ => False) wr)) (fun _ _ s _ => NO - (intOf s).toNat)
  case atStart => exact ⟨0, F0, false, [], Nat.zero_le _, rfl, rfl, HCL, hid (Nat.zero_le _), HW2⟩
  case round =>
    obtain ⟨i, F, cl, all, hi, rfl, rfl, HC, HA, HS⟩ := hrel
    clear HW2 HCL
    have HA1 : Hid (∀ n, n ≤ 65536 → all.length + n ≤ (i + 1) * 65536) := fun n hn => by rw [Nat.succ_mul]; exact Nat.add_le_add HA.out hn
    have HA2 : Hid (all.length ≤ 68719476736) := by have := HA.out; show _ ≤ _; omega
    by_cases hlt : i < NO
    · have hii : (i : Int) < NO := by omega
      obtain ⟨g2, o2, rfl, hcl, hed, hda, hok⟩ := HO.out i (by have := HNO.out; omega)
      generalize Os[i]'(by have := HNO.out; omega) = ox at *
      obtain ⟨⟨o0, o1, o2', o3, o4, o5, o6, o7⟩, y⟩ := ox
      simp only at hcl hed hda hok
      subst hda
      have k0 : wr.cell? ⟨g2, o2 + i * 8, none⟩ = some (.int .i64 o0) := cell_kept HS.out.bel (hcl 0 _ rfl)
      have k1 : wr.cell? ⟨g2, o2 + i * 8 + 1, none⟩ = some (.bool o1) := cell_kept HS.out.bel (hcl 1 _ rfl)
      have k2 : wr.cell? ⟨g2, o2 + i * 8 + 2, none⟩ = some (.int .i64 o2') := cell_kept HS.out.bel (hcl 2 _ rfl)
      have k3 : wr.cell? ⟨g2, o2 + i * 8 + 3, none⟩ = some (.int .u64 o3) := cell_kept HS.out.bel (hcl 3 _ rfl)
      have k4 : wr.cell? ⟨g2, o2 + i * 8 + 4, none⟩ = some (.bool o4) := cell_kept HS.out.bel (hcl 4 _ rfl)
      have k5 : wr.cell? ⟨g2, o2 + i * 8 + 5, none⟩ = some (.int .u64 o5) := cell_kept HS.out.bel (hcl 5 _ rfl)
      have k6 : wr.cell? ⟨g2, o2 + i * 8 + 6, none⟩ = some (.int .i64 o6) := cell_kept HS.out.bel (hcl 6 _ rfl)
      have k7 : wr.cell? ⟨g2, o2 + i * 8 + 7, none⟩ = some (.slice y.a y.bs.length y.cap) := cell_kept HS.out.bel (hcl 7 _ rfl)
      have HOK := hid hok
      clear hcl hok
      have hRo := Row.new wr [.int .i64 o0, .bool o1, .int .i64 o2', .int .u64 o3, .bool o4, .int .u64 o5, .int .i64 o6, .slice y.a y.bs.length y.cap] 43
      have HS3 := hid ((HS.out.box (.cells #[.int .i64 o0, .bool o1, .int .i64 o2', .int .u64 o3, .bool o4, .int .u64 o5, .int .i64 o6, .slice y.a y.bs.length y.cap] 43)).less (M := fun z => z = wr.heap.size) (fun z hz => .inr hz))
      have HRO := hid hRo
      clear hRo HS
      go_upto_if 44 with fail
      generalize wr.alloc (.cells #[.int .i64 o0, .bool o1, .int .i64 o2', .int .u64 o3, .bool o4, .int .u64 o5, .int .i64 o6, .slice y.a y.bs.length y.cap] 43) = w3 at *
      clear k0 k1 k2 k3 k4 k5 k6 k7
      generalize wr.heap.size = ob at *
      have q0 := HRO.out.cell 0 _ rfl
      have q1 := HRO.out.cell 1 _ rfl
      have q2 := HRO.out.cell 2 _ rfl
      have q3 := HRO.out.cell 3 _ rfl
      have q4 := HRO.out.cell 4 _ rfl
      have q5 := HRO.out.cell 5 _ rfl
      have q6 := HRO.out.cell 6 _ rfl
      have q7 := HRO.out.cell 7 _ rfl
      go_cut [7, 11, 12, 13, 14, 38] from 38 to 214 (fun s7 _ _ _ _ s38 wx => s38 = .int .i64 i ∧ ∃ F' all', List.length all' ≤ (i + 1) * 65536 ∧ KpS w p F' b all' all' s7 (fun _ => False) wx)
      case first =>
        by_cases hk1 : o0 = 1
        · subst hk1
          as_aux_lemma =>
            obtain ⟨n, hn⟩ : ∃ n, F.takesG y.bs.length = n := ⟨_, rfl⟩
            obtain ⟨t1, t2, t3, t4⟩ := takes_eq HS3.out.ok hn
            have HWR : Hid (∀ w4, Below w3.heap.size w3 w4 → Calls Try.prog 11 #[.pointer (some ⟨p, 0, none⟩), .slice y.a y.bs.length y.cap] w4 fun e w' => e = .returned (.int .i64 n) ∧ ∃ F', KpS w p F' b all (all ++ y.bs.take n) u7 (fun z => z = ob) w' ∧ SameN (fun z => z = ob) w4 w') := fun w4 hb4 => (HS3.out.kept hb4).write HOK.out hn
            have HFR := hid HS3.out.free
            have HEN : Hid (∀ w4, Below w3.heap.size w3 w4 → Calls Try.prog 15 #[.pointer (some ⟨p, 0, none⟩)] w4 fun e w' => e = .returned (.int .u64 F.end_) ∧ w' = w4) := fun w4 hb4 => (HS3.out.kept hb4).endc
            obtain ⟨f0, f1⟩ := free_bd HS3.out.ok
            have hE1 := HS3.out.ok.e1
            have hE0 : 0 ≤ F.end_ := by rw [HS3.out.end_]; omega
            rw [HC.out] at t1 t2
            have HQ7 : Hid (∀ w4 w5, Below w3.heap.size w3 w4 → SameN (fun z => z = ob) w4 w5 → w5.cell? ⟨ob, 7, none⟩ = some (.slice y.a y.bs.length y.cap)) := fun w4 w5 h4 h5 => h5 ob 7 _ rfl (cell_kept h4 q7)
            generalize F.free = fr at *
            generalize F.end_ = E at *
            obtain ⟨ya, yc, ybs⟩ := y
            simp only at t2 t3 HWR HQ7 q7
            have hyc : (ybs.length : Int) ≤ yc := by have := HOK.out.lc; simp only at this; omega
            have hym : (yc : Int) ≤ 9223372036854775807 := by have := HOK.out.cm; unfold maxLen at this; simp only at this; omega
            obtain ⟨mn, hmn⟩ : ∃ mn, min (ybs.length : Int) fr = mn := ⟨_, rfl⟩
            obtain ⟨lf, hlf⟩ : ∃ lf, (4611686018427387904 : Int) - E = lf := ⟨_, rfl⟩
            have hwl : IntKind.u64.wrap (4611686018427387904 - E) = lf := by rw [IntKind.wrap_u64]; omega
            have hwm : IntKind.u64.wrap mn = mn := by rw [IntKind.wrap_u64]; omega
            have hwi : IntKind.i64.wrap lf = lf := by rw [IntKind.wrap_i64]; omega
            rw [hmn, hlf] at t2
            have hnc : (n : Int) ≤ yc := by omega
            clear hlf hn HS3 hE0 hE1 HC
            go_upto_region 13 with (first | (go_at_call 30; refine HFR.out.mono ?_; rintro e w4 ⟨rfl, hb4⟩; have HB4 := hid hb4; clear hb4; have q7' := cell_kept HB4.out q7) | (go_at_call 15; refine (HEN.out w4 HB4.out).mono ?_; rintro e w5 ⟨rfl, h5⟩; rw [h5]; clear h5) | (go_at_call 11; refine (HWR.out w4 HB4.out).mono ?_; rintro e w5 ⟨rfl, F', hA5, hN5⟩; have r7 := HQ7.out w4 w5 HB4.out hN5; have HA5 := hid hA5; clear hA5 hN5))
            clear HFR HEN HWR HQ7 q7 q7' q0 q1 q2 q3 q4 q5 q6
            have HBY : Hid (BytesAt w5 ya (ybs.take n)) := fun k hk => by
              have hk' : k < ybs.length := by rw [List.length_take] at hk; omega
              obtain ⟨g, o, e, c⟩ := (HOK.out.by_.kept HA5.out.bel) k hk'
              exact ⟨g, o, e, by rw [List.getElem_take]; exact c⟩
            have HTL : Hid ((ybs.take n).length = n) := by show _ = _; rw [List.length_take]; omega
            have HZ : Hid (ya = none → yc = 0) := HOK.out.z
            cases cl with
            | true =>
              obtain rfl := t1 rfl
              clear t1 t2
              by_cases hgt : lf < mn
              · as_aux_lemma =>
                  have hdg : decide (lf < mn) = true := decide_eq_true hgt
                  go_upto_region 20 with fail
                  go_wp2_with (at_builtin; refine wpAppendA (.tmp 69) (.tmp 73) rfl rfl (base := w.heap.size) rfl HA5.out.own HA5.out.bel.size rfl HZ.out HTL.out HBY.out (by have := HA2.out; omega) ?_; intro w6 v6 hO6 hg6)
                  go_meet
                  exact ⟨rfl, F', all ++ ybs.take 0, by rw [List.length_append, HTL.out]; exact HA1.out 0 t4, (HA5.out.push (by have := hO6.out; rw [List.length_append, HTL.out]; exact this) hg6.out.1 hg6.out.2).1.less (fun _ h => False.elim h)⟩
              · as_aux_lemma =>
                  have hdg : decide (lf < mn) = false := decide_eq_false hgt
                  go_upto_region 20 with fail
                  go_wp2_with (at_builtin; refine wpAppendA (.tmp 69) (.tmp 73) rfl rfl (base := w.heap.size) rfl HA5.out.own HA5.out.bel.size rfl HZ.out HTL.out HBY.out (by have := HA2.out; omega) ?_; intro w6 v6 hO6 hg6)
                  go_meet
                  exact ⟨rfl, F', all ++ ybs.take 0, by rw [List.length_append, HTL.out]; exact HA1.out 0 t4, (HA5.out.push (by have := hO6.out; rw [List.length_append, HTL.out]; exact this) hg6.out.1 hg6.out.2).1.less (fun _ h => False.elim h)⟩
            | false =>
              replace t2 := t2 rfl
              clear t1
              by_cases hgt : lf < mn
              · as_aux_lemma =>
                  have HE : Hid (lf = (n : Int)) := by show lf = (n : Int); omega
                  have hdg : decide (lf < mn) = true := decide_eq_true hgt
                  clear t2
                  go_upto_region 18 with fail
                  obtain rfl := HE.out
                  clear HE hwl hwm hwi hmn hdg hgt
                  go_upto_region 20 with fail
                  go_wp2_with (at_builtin; refine wpAppendA (.tmp 69) (.tmp 73) rfl rfl (base := w.heap.size) rfl HA5.out.own HA5.out.bel.size rfl HZ.out HTL.out HBY.out (by have := HA2.out; omega) ?_; intro w6 v6 hO6 hg6)
                  go_meet
                  exact ⟨rfl, F', all ++ ybs.take n, by rw [List.length_append, HTL.out]; exact HA1.out n t4, (HA5.out.push (by have := hO6.out; rw [List.length_append, HTL.out]; exact this) hg6.out.1 hg6.out.2).1.less (fun _ h => False.elim h)⟩
              · as_aux_lemma =>
                  have HE : Hid (mn = (n : Int)) := by show mn = (n : Int); omega
                  have hdg : decide (lf < mn) = false := decide_eq_false hgt
                  clear t2
                  go_upto_region 18 with fail
                  obtain rfl := HE.out
                  clear HE hwl hwm hwi hmn hdg hgt
                  go_upto_region 20 with fail
                  go_wp2_with (at_builtin; refine wpAppendA (.tmp 69) (.tmp 73) rfl rfl (base := w.heap.size) rfl HA5.out.own HA5.out.bel.size rfl HZ.out HTL.out HBY.out (by have := HA2.out; omega) ?_; intro w6 v6 hO6 hg6)
                  go_meet
                  exact ⟨rfl, F', all ++ ybs.take n, by rw [List.length_append, HTL.out]; exact HA1.out n t4, (HA5.out.push (by have := hO6.out; rw [List.length_append, HTL.out]; exact this) hg6.out.1 hg6.out.2).1.less (fun _ h => False.elim h)⟩
        · go_wp2_with (go_at_call 21; refine (HS3.out.play o0 o1 o2' o3 o4 o5 o6 _ hed.1 hed.2).mono ?_; rintro e w4 ⟨rfl, F', hA, hN⟩; have HA4 := hid hA; clear hA hN)
          go_meet
          exact ⟨rfl, F', all, HA1.out 0 (Nat.zero_le _), HA4.out.less (fun _ h => h.elim)⟩
      case rest =>
        obtain ⟨rfl, F4, all4, hal, h4⟩ := hcut
        obtain ⟨a7, c7, hv7, hby7, hlc7, hcm7, hat7⟩ := ownBy_shape h4.own
        subst hv7
        obtain ⟨A, hA⟩ : ∃ A, all4.length = A := ⟨_, rfl⟩
        have hend := h4.end_
        rw [hA] at hend hlc7 ⊢
        have ok := h4.ok
        have hE : b + (A : Int) ≤ 4611686018427387904 := by have := ok.e1; omega
        obtain ⟨f0, _⟩ := free_bd ok
        have hhi := ok.h1
        have hac := ok.a1
        rw [hend] at hhi hac
        obtain ⟨cl4, hcl4⟩ : ∃ c, F4.closed = c := ⟨_, rfl⟩
        have HCLO : Hid (Calls Try.prog 31 #[.pointer (some ⟨p, 0, none⟩)] wc fun e w' => e = .returned (.bool cl4) ∧ w' = wc) := by rw [← hcl4]; exact h4.closed
        have HFR := hid h4.free
        have HEN : Hid (∀ W, Below wc.heap.size wc W → Calls Try.prog 15 #[.pointer (some ⟨p, 0, none⟩)] W fun e w' => e = .returned (.int .u64 (b + (A : Int))) ∧ w' = W) := fun W hW => by rw [← hend]; exact (h4.kept hW).endc
        have HHI : Hid (∀ W, Below wc.heap.size wc W → Calls Try.prog 16 #[.pointer (some ⟨p, 0, none⟩)] W fun e w' => e = .returned (.int .u64 F4.high) ∧ w' = W) := fun W hW => (h4.kept hW).high
        have HAC : Hid (∀ W, Below wc.heap.size wc W → Calls Try.prog 20 #[.pointer (some ⟨p, 0, none⟩)] W fun e w' => e = .returned (.int .u64 F4.acked) ∧ w' = W) := fun W hW => (h4.kept hW).acked
        obtain ⟨NL, hNL⟩ : ∃ n, F4.L.length = n := ⟨_, rfl⟩
        have HCH : Hid (∀ W, Below wc.heap.size wc W → Calls Try.prog 19 #[.pointer (some ⟨p, 0, none⟩)] W fun e w' => ∃ u X, e = .returned u ∧ w'.ownsRow W.heap.size 32 5 u NL X ∧ ChY F4.L X ∧ Below W.heap.size W w') := fun W hW => by rw [← hNL]; exact (h4.kept hW).chunks
        have HNL := hid hNL
        have hnl : (NL : Int) ≤ 65537 := by have := ok.nl; omega
        clear hNL
        have HS4 := hid h4
        have HB7 := hid hby7
        have HAL := hid hal
        have HOK4 := hid ok
        have HA7 := hid hA
        have HT7 := hid hat7
        have HC4 := hid hcl4
        have HE4 := hid hend
        clear q0 q1 q2 q3 q4 q5 q6 q7 HS3 HRO HOK h4 hby7 hal ok hA hat7 hcl4 hend HA1 HA2 HA HC
        obtain ⟨wk, hwk⟩ : ∃ wk, wk = wc := ⟨_, rfl⟩
        rw [← hwk] at HCLO HFR HEN HHI HAC HCH HS4 HB7 HT7 ⊢
        clear hwk
        generalize F4.free = fr4 at *
        generalize F4.high = hi4 at *
        generalize F4.acked = ac4 at *
        have hf1 : ¬ fr4 < 0 := by omega
        have hd1 : decide (fr4 < 0) = false := decide_eq_false hf1
        have hw1 : IntKind.u64.wrap (A : Int) = A := by rw [IntKind.wrap_u64]; omega
        have hw2 : IntKind.u64.wrap (b + (A : Int)) = b + A := by rw [IntKind.wrap_u64]; omega
        have hw3 : IntKind.u64.wrap (b + (A : Int) + 1) = b + A + 1 := by rw [IntKind.wrap_u64]; omega
        have hh1 : ¬ b + (A : Int) < hi4 := by omega
        have hd2 : decide (b + (A : Int) < hi4) = false := decide_eq_false hh1
        have hh2 : ¬ b + (A : Int) + 1 < ac4 := by omega
        have hd3 : decide (b + (A : Int) + 1 < ac4) = false := decide_eq_false hh2
        clear f0 hhi hac
        go_upto_region 25 with (first | (go_at_call 31; refine HCLO.out.mono ?_; rintro e w5 ⟨rfl, h5⟩; rw [h5]; clear h5) | (go_at_call 30; refine HFR.out.mono ?_; rintro e w6 ⟨rfl, hb6⟩; have HB6 := hid hb6; clear hb6) | (go_at_call 15; refine (HEN.out w6 HB6.out).mono ?_; rintro e w7 ⟨rfl, h7⟩; rw [h7]; clear h7) | (go_at_call 16; refine (HHI.out w6 HB6.out).mono ?_; rintro e w7 ⟨rfl, h7⟩; rw [h7]; clear h7) | (go_at_call 20; refine (HAC.out w6 HB6.out).mono ?_; rintro e w7 ⟨rfl, h7⟩; rw [h7]; clear h7))
        clear HCLO HFR HHI HAC hf1 hd1 hh1 hd2 hh2 hd3
        go_wp2_with (go_at_call 19; refine (HCH.out w6 HB6.out).mono ?_; rintro e w8 ⟨u15', X, rfl, ho8, hx8, hb8⟩; obtain ⟨a15, c15, rfl, hrd⟩ := own_rd ho8; have HRD := hid hrd; have HX8 := hid hx8; have HB8 := hid (HB6.out.trans (hb8.mono HB6.out.size)); clear hb8 ho8 hrd hx8)
        clear HCH HEN
        have HEN : Hid (∀ W, Below w8.heap.size w8 W → Calls Try.prog 15 #[.pointer (some ⟨p, 0, none⟩)] W fun e w' => e = .returned (.int .u64 (b + (A : Int))) ∧ w' = W) := fun W hW => by rw [← HE4.out]; exact (HS4.out.kept (HB8.out.trans (hW.mono HB8.out.size))).endc
        have HS8 := hid (HS4.out.kept HB8.out)
        have HB78 := hid (HB7.out.kept HB8.out)
        clear HB8 HB6 HS4 HB7 HT7
        go_loopw [112] (fun s112 wx => ∃ j : Nat, j ≤ NL ∧ s112 = .int .i64 j ∧ Hid (Below w8.heap.size w8 wx)) (fun s _ => NL - (intOf s).toNat)
        case atStart => exact ⟨0, Nat.zero_le _, rfl, hid (Below.refl _ _)⟩
        case round =>
          obtain ⟨j, hj, rfl, HBX⟩ := hrel
          by_cases hjl : j < NL
          · have hji : (j : Int) < NL := by omega
            have hjL : j < F4.L.length := by have := HNL.out; omega
            obtain ⟨f, l, fin, hC⟩ := kpC HOK4.out HS8.out.tri HS8.out.end_ hjL
            obtain ⟨x0, x1, x2, ⟨sa, sn, sc, x3⟩, x4⟩ := HX8.out.at_ j hjL
            rw [hC.off hjL] at x0
            rw [hC.len hjL] at x1
            rw [hC.fi hjL] at x2
            obtain ⟨g15, rfl, m0⟩ := HRD.out _ _ x0
            obtain ⟨_, e1, m1⟩ := HRD.out _ _ x1
            cases e1
            obtain ⟨_, e2, m2⟩ := HRD.out _ _ x2
            cases e2
            obtain ⟨_, e3, m3⟩ := HRD.out _ _ x3
            cases e3
            obtain ⟨_, e4, m4⟩ := HRD.out _ _ x4
            cases e4
            replace m0 := cell_kept HBX.out m0
            replace m1 := cell_kept HBX.out m1
            replace m2 := cell_kept HBX.out m2
            replace m3 := cell_kept HBX.out m3
            replace m4 := cell_kept HBX.out m4
            have hle : f + l ≤ A := by have := hC.le; have := HA7.out; omega
            have HC2 := hid hC
            have HNZ := hid hC.nz
            clear x0 x1 x2 x3 x4 hC
            generalize F4.L[j].held = hd at *
            have HRB := hid (Row.new wr [.int .u64 (b + (f : Int)), .int .i64 l, .bool fin, .slice sa sn sc, .bool hd] 32)
            have HBM := hid (HBX.out.trans (((Below.refl wr.heap.size wr).alloc (Nat.le_refl _) (.cells #[.int .u64 (b + (f : Int)), .int .i64 l, .bool fin, .slice sa sn sc, .bool hd] 32)).mono HBX.out.size))
            have hwf0 : IntKind.u64.wrap (b + (f : Int) - b) = f := by rw [IntKind.wrap_u64]; omega
            have hwf1 : IntKind.u64.wrap (f : Int) = f := by rw [IntKind.wrap_u64]; omega
            go_upto_region 29 with fail
            generalize wr.alloc (.cells #[.int .u64 (b + (f : Int)), .int .i64 l, .bool fin, .slice sa sn sc, .bool hd] 32) = wm at *
            generalize wr.heap.size = cb at *
            have r0 := HRB.out.cell 0 _ rfl
            have r1 := HRB.out.cell 1 _ rfl
            have r2 := HRB.out.cell 2 _ rfl
            clear m0 m1 m2 m3 m4
            go_upto_region 30 with fail
            obtain ⟨ax, hsl, hax⟩ := slice_lh a7 A c7 f l (by omega)
            have HAX := hid hax
            clear hax
            have HBY : Hid (∀ W, Below wm.heap.size wm W → Calls Try.prog 27 #[.pointer (some ⟨p, 0, none⟩), .int .u64 (b + (f : Int))] W fun e w' => ∃ a' c', e = .returned (.slice a' l c') ∧ BytesAt w' a' ((all4.drop f).take l) ∧ Below W.heap.size W w') := fun W hW => by
              have := (HS8.out.kept (HBM.out.trans (hW.mono HBM.out.size))).bytes hjL
              rw [HC2.out.off hjL, HC2.out.len hjL, HC2.out.bs hjL] at this
              exact this
            have HSM : Hid (∀ W a' c', Below wm.heap.size wm W → BytesAt W a' ((all4.drop f).take l) → Calls Try.prog 32 #[.slice a' l c', .slice ax l (c7 - f)] W fun e w' => e = .returned (.bool true) ∧ w' = W) := fun W a' c' hW hB =>
              psame_yes hB (by have := HA7.out; rw [List.length_take, List.length_drop]; omega) (HAX.out W all4 (by have := HA7.out; omega) (HB78.out.kept (HBM.out.trans (hW.mono HBM.out.size))))
            have h30a : ¬ b + (f : Int) < b := by omega
            have h30b : decide (b + (f : Int) < b) = false := decide_eq_false h30a
            have hwl : IntKind.u64.wrap (l : Int) = l := by rw [IntKind.wrap_u64]; omega
            have hws : IntKind.u64.wrap ((f : Int) + l) = (f : Int) + l := by rw [IntKind.wrap_u64]; omega
            have h30c : ¬ (A : Int) < (f : Int) + l := by omega
            have h30d : decide ((A : Int) < (f : Int) + l) = false := decide_eq_false h30c
            have h30e : ((fin != ((l : Int) == 0)) : Bool) = false := by
              rw [HNZ.out]
              by_cases h : l = 0
              · subst h; rfl
              · have : ((l : Int) == 0) = false := by simpa using h
                rw [this, decide_eq_false h]; rfl
            have H30 := hid h30e
            clear h30e
            go_cut [159] from 121 to 159 (fun s159 wx => s159 = .bool false ∧ Below wm.heap.size wm wx)
            case first =>
              as_aux_lemma =>
                go_region_held3 (fun w' => w'.cell? ⟨cb, 0, none⟩ = some (.int .u64 (b + (f : Int))) ∧ w'.cell? ⟨cb, 1, none⟩ = some (.int .i64 l) ∧ w'.cell? ⟨cb, 2, none⟩ = some (.bool fin)) (go_keep)
                  (first
                    | (go_at_call 27; refine Calls.mono (HBY.out _ (below_drewN (Below.refl _ _) 1)) ?_; rintro e w20 ⟨a', c', rfl, hB', hb'⟩; have s0 := cell_kept hb' (cell_drewN (m := 1) r0); have s1 := cell_kept hb' (cell_drewN (m := 1) r1); have s2 := cell_kept hb' (cell_drewN (m := 1) r2); have HB20 := hid (And.intro hB' ((below_drewN (Below.refl _ _) 1).trans (hb'.mono (Nat.le_refl _)))); clear hB' hb')
                    | (go_at_call 32; refine Calls.mono (HSM.out _ _ _ HB20.out.2 HB20.out.1) ?_; rintro e w21 ⟨rfl, h21⟩; rw [h21]; clear h21))
                all_goals (go_wp2_with fail; go_meet; exact ⟨congrArg Value.bool H30.out, HB20.out.2⟩)
            case rest =>
              obtain ⟨rfl, hb9⟩ := hcut
              have HB9 := hid (HBM.out.trans (hb9.mono HBM.out.size))
              have HR9 := hid (HRB.out.kept hb9 HRB.out.lt)
              clear hb9 HBM HRB r0 r1 r2 H30 HSM HBY hsl HAX h30a h30b h30c h30d hwf0 hwf1 hws
              obtain ⟨wn, hwn⟩ : ∃ wn, wn = wc := ⟨_, rfl⟩
              rw [← hwn] at HB9 HR9 ⊢
              clear hwn
              have hj0 : 0 ≤ (j : Int) + 1 := by omega
              have hj1 : IntKind.i64.wrap ((j : Int) + 1) = (j : Int) + 1 := by rw [IntKind.wrap_i64]; omega
              have hbfl : IntKind.u64.wrap (b + (f : Int) + l) = b + (f : Int) + l := by rw [IntKind.wrap_u64]; omega
              have HED := hid (toK (n := 15) (args := #[.pointer (some ⟨p, 0, none⟩)]) (v := .int .u64 (b + (A : Int))) (w := wn) (fun w' hb => (HEN.out w' (HB9.out.trans (hb.mono HB9.out.size))).mono (by rintro e w'' ⟨rfl, rfl⟩; exact ⟨rfl, Below.refl _ _⟩)))
              go_upto_region 32 with fail
              go_cut [212] from 160 to 212 (fun s212 wx => s212 = .bool false ∧ Below wn.heap.size wn wx)
              case first =>
                have r0 := cell_regrown (HR9.out.cell 0 _ rfl)
                have r1 := cell_regrown (HR9.out.cell 1 _ rfl)
                have r2 := cell_regrown (HR9.out.cell 2 _ rfl)
                by_cases hjn : j + 1 < NL
                · as_aux_lemma =>
                    have hjni : (j : Int) + 1 < NL := by omega
                    have hjd : decide ((j : Int) + 1 < NL) = true := decide_eq_true hjni
                    have hje : (((j : Int) + 1) == (NL : Int)) = false := by simp; omega
                    have hfin : fin = false := by
                      cases fin with
                      | false => rfl
                      | true => have := (HC2.out.end_ rfl).1; have := HNL.out; omega
                    rw [hfin] at r2
                    obtain ⟨y0, _⟩ := HX8.out.at_ (j + 1) (by have := HNL.out; omega)
                    rw [HC2.out.nxt (by have := HNL.out; omega)] at y0
                    obtain ⟨_, e5, m5⟩ := HRD.out _ _ y0
                    cases e5
                    replace m5 := cell_regrown (cell_kept HB9.out m5)
                    clear y0 hfin
                    refine wp_region_quiet_below (by kernel_rfl) (by decide +kernel) ?_
                    iterate 27 (quiet_step (fail))
                    iterate 9 go_big_quiet_skip
                    iterate 6 (quiet_step (fail))
                    iterate 9 go_big_quiet_skip
                    iterate 2 (quiet_step (fail))
                    refine wpQuiet_nil ?_
                    intro _ hw'
                    obtain ⟨⟨dq, osq⟩, hw''⟩ := hw'
                    subst hw''
                    go_wp2_with fail
                    go_meet
                    exact ⟨rfl, below_regrown wn dq osq⟩
                · have hjnN : j + 1 = NL := by omega
                  replace hj1 : IntKind.i64.wrap ((j : Int) + 1) = (NL : Int) := by rw [hj1]; omega
                  have hjni : ¬ (NL : Int) < NL := by omega
                  have hjd : decide ((NL : Int) < NL) = false := decide_eq_false hjni
                  clear hj0
                  have hla : b + (f : Int) + l = b + A := by
                    have := HC2.out.las (by have := HNL.out; omega)
                    rw [HA7.out] at this
                    exact this
                  rw [hla] at hbfl
                  cases fin with
                  | false =>
                    as_aux_lemma =>
                      refine wp_region_quiet_below (by kernel_rfl) (by decide +kernel) ?_
                      iterate 6 (quiet_step (fail))
                      iterate 13 go_big_quiet_skip
                      iterate 8 (quiet_step (fail))
                      iterate 9 (quiet_step (first | (go_at_call 15; exact HED.out _ _)))
                      iterate 6 (quiet_step (fail))
                      iterate 9 go_big_quiet_skip
                      iterate 2 (quiet_step (fail))
                      refine wpQuiet_nil ?_
                      intro _ hw'
                      obtain ⟨⟨dq, osq⟩, hw''⟩ := hw'
                      subst hw''
                      go_wp2_with fail
                      go_meet
                      exact ⟨rfl, below_regrown wn dq osq⟩
                  | true =>
                    as_aux_lemma =>
                      have hcl : cl4 = true := by rw [← HC4.out]; exact (HC2.out.end_ rfl).2
                      subst hcl
                      refine wp_region_quiet_below (by kernel_rfl) (by decide +kernel) ?_
                      iterate 6 (quiet_step (fail))
                      iterate 13 go_big_quiet_skip
                      iterate 8 (quiet_step (fail))
                      iterate 9 (quiet_step (first | (go_at_call 15; exact HED.out _ _)))
                      iterate 17 (quiet_step (fail))
                      refine wpQuiet_nil ?_
                      intro _ hw'
                      obtain ⟨⟨dq, osq⟩, hw''⟩ := hw'
                      subst hw''
                      go_wp2_with fail
                      go_meet
                      exact ⟨rfl, below_regrown wn dq osq⟩
              case rest =>
                obtain ⟨rfl, hb10⟩ := hcut
                have HB10 := hid (HB9.out.trans (hb10.mono HB9.out.size))
                clear hb10 HB9 HR9 HED hj1 hbfl hj0
                go_wp2_with fail
                go_roundw
                case rel => exact ⟨j + 1, hjl, by go_num, HB10⟩
                case measure => simp [intOf]; omega
          · have hji : ¬ (j : Int) < NL := by omega
            go_wp2_with fail
            go_roundw
            case rel => exact ⟨i + 1, F4, cl4, all4, hlt, by go_num, rfl, HC4, HAL, by have := HS8.out.kept HBX.out; rw [HA7.out] at this; exact this⟩
            case measure => simp [intOf]; omega
    · have hii : ¬ (i : Int) < NO := by omega
      go_wp2_with fail
      go_ret
      exact ⟨rfl, HS.out.bel⟩
end Go.Proofs.Ytnohammflhadpaa
