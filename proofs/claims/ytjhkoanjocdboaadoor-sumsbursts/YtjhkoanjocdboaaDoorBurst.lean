import Derived.Test.YtjhkoanjocdboaaDoorLin0
namespace Go.Proofs.YtjhkoanjocdboaaDoor
open Go.RowKit
set_option maxRecDepth 100000

@[go_sem] theorem ub_xor (x y : BitVec 8) : bits .xor .u8 (ub x) (ub y) = ub (x ^^^ y) := by
  show IntKind.u8.wrap ((BitVec.ofInt 8 (ub x) ^^^ BitVec.ofInt 8 (ub y)).toNat : Int) = _
  rw [ub_ofInt, ub_ofInt]; exact ub_wrap_ub _

theorem u_and1 (x : BitVec 32) : bits .and .u32 (u x) 1 = u (x &&& 1#32) := by
  have e : (1 : Int) = u 1#32 := by decide
  rw [e, u_and]
theorem low_bit (x : BitVec 32) : x &&& 1#32 = 1#32 ∨ x &&& 1#32 = 0#32 := by
  have h : (x &&& 1#32).toNat < 2 := by
    rw [BitVec.toNat_and]
    exact Nat.and_lt_two_pow (n := 1) _ (by decide)
  rcases Nat.lt_or_ge (x &&& 1#32).toNat 1 with h1 | h1
  · right; exact BitVec.eq_of_toNat_eq (by simp at h1 ⊢; omega)
  · left; exact BitVec.eq_of_toNat_eq (by simp at h h1 ⊢; omega)
theorem shl_one (t : Nat) (ht : t < 8) : (2 : Int) ^ t = ub (1#8 <<< t) := by
  have : ∀ t : Fin 8, (2 : Int) ^ t.val = ub (1#8 <<< t.val) := by decide
  exact this ⟨t, ht⟩
theorem one_shl (k : Nat) (hk : k < 32) : (1#32 <<< k).toNat = 2 ^ k := by
  have : ∀ k : Fin 32, (1#32 <<< k.val).toNat = 2 ^ k.val := by decide
  exact this ⟨k, hk⟩

/-- append(nil, bs...), where there is something to append. -/
theorem wpAppendNil {ops : Array Oper} {rest : List Oper} {o : Oper} {a : Act} {w : World} {Q : Exit → Act → World → Prop} (s x : Operand) (hgd : o.guard = none) (ho : o.op = .call { callee := .builtin .append, args := #[s, x], argTypes := #[24, 24] })
    (hs : a.eval s = .slice none 0 0) {ad : Option Addr} {c : Nat} {bs : List (BitVec 8)} (hx : a.eval x = .slice ad bs.length c) (hB : BytesAt w ad bs) (h0 : 0 < bs.length) (hl : bs.length ≤ 140737488355328)
    (h : ∀ w' g cap tail, Hid (Row w' g (bcells bs ++ tail) 5) → Hid (w.heap.size ≤ g) → Hid (Below w.heap.size w w') → wpList Tryd.prog ops Q rest (a.put o.dst (.slice (some ⟨g, 0, none⟩) bs.length cap)) w') : wpList Tryd.prog ops Q (o :: rest) a w := by
  obtain ⟨g0, o0, rfl, _⟩ := hB 0 h0
  obtain ⟨i, h1, h2, h3, h4⟩ := info5
  refine wpList_append_own w hgd s x 24 ho w.heap.size 5 i (.int .u8 0) 1 1 Tryd.underlying24 h1 h2 h3 h4 rfl (by decide) _ 0 [] hs ⟨rfl, .inl ⟨rfl, rfl⟩⟩ ⟨g0, o0, none⟩ bs.length c (bcells bs) hx (by rw [bcells_len]; omega) ?_ (bcells_one _) (by unfold maxLen; omega) (by omega) (Nat.le_refl _) ?_
  · intro j v hv
    have hj : j < bs.length := by
      have := (List.getElem?_eq_some_iff.1 hv).1
      rwa [bcells_len] at this
    obtain ⟨g2, o2, e2, c2⟩ := hB j hj
    cases e2
    rw [bcells_get hj] at hv
    rw [Addr.add_mid, c2]
    exact hv
  · intro v' w' hown hgrow _
    obtain ⟨_, ⟨_, hn⟩ | ⟨g, cap, cur, rfl, hg, hh, hnc, hcm, hcs, htk⟩⟩ := hown
    · omega
    · rw [Nat.zero_add] at *
      refine h w' g cap (cur.toList.drop bs.length) ⟨?_⟩ hg ((Below.refl _ _).grown hgrow (Nat.le_refl _) (fun k e => by cases e))
      have : bcells bs ++ cur.toList.drop bs.length = cur.toList := by
        have e : bcells bs = cur.toList.take bs.length := by
          rw [Nat.mul_one] at htk
          simpa using htk.symm
        rw [e, List.take_append_drop]
      rw [this]
      simpa using hh

/-- Where the law stands: k bits are done. -/
structure Bursting (w : World) (bs : List (BitVec 8)) (A g : Nat) (tail : List Value) (bt : BitVec 32) (vc vi : Value) (wr : World) : Prop where
  ex : ∃ (k : Nat) (O : List (BitVec 8)) (Wd : BitVec 32), k ≤ 32 ∧ vi = .int .i64 (k : Int) ∧ vc = .bool (decide (Wd ≠ 0#32)) ∧ O.length = bs.length ∧ Wd.toNat < 2 ^ k ∧ crc O = crc bs ^^^ Sn (8 * bs.length - A) Wd ∧ Row wr g (bcells O ++ tail) 5 ∧ Below w.heap.size w wr

set_option maxHeartbeats 1500000 in
theorem burst_any {w : World} {a : Option Addr} {cap : Nat} {bs : List (BitVec 8)} (hB : BytesAt w a bs) (hlen : bs.length ≤ 140737488355328) (z : Int) (bt : BitVec 32) (hK : KTab w) (hC : CrcTab w) (h2 : 2 ≤ w.heap.size) :
    Calls Tryd.prog 5 #[.slice a bs.length cap, .int .i64 z, .int .u32 (u bt)] w fun e w' => e = .returned (.bool true) ∧ Below w.heap.size w w' := by
  have HB : Hid (BytesAt w a bs) := hB
  have HK : Hid (KTab w) := hK
  have HC : Hid (CrcTab w) := hC
  have H2 : Hid _ := h2
  have hli : (bs.length : Int) ≤ 140737488355328 := by omega
  have HLEN : Hid _ := hlen
  clear hB hK hC h2 hlen
  by_cases h0 : bs.length = 0
  · have hkn := known_any HK.out HC.out H2.out
    have HKN : Hid _ := hkn
    clear hkn
    rw [h0] at hli ⊢
    go_enter Tryd.func5, Tryd.ntmps5
    go_wp2_with (go_at_call 20; refine Calls.mono HKN.out ?_; rintro e w1 ⟨rfl, hb⟩; have HB1 : Hid _ := hb; clear hb)
    go_ret
    exact ⟨rfl, HB1.out⟩
  · obtain ⟨L8, hL8⟩ : ∃ L8, L8 = 8 * bs.length := ⟨_, rfl⟩
    have h8 : (8 : Int) * (bs.length : Int) = (L8 : Int) := by omega
    have h8p : (0 : Int) < (L8 : Int) := by omega
    have h8b : (L8 : Int) ≤ 1125899906842624 := by omega
    have h8n : ¬ ((L8 : Int) = 0) := by omega
    have h8e : ((L8 : Int) == 0) = false := by rw [beq_eq_false_iff_ne]; exact h8n
    obtain ⟨A, hA, hAl⟩ : ∃ A : Nat, IntKind.u64.wrap z % (L8 : Int) = (A : Int) ∧ A < L8 := by
      have h1 := Int.emod_nonneg (IntKind.u64.wrap z) (show (L8 : Int) ≠ 0 by omega)
      have h2 := Int.emod_lt_of_pos (IntKind.u64.wrap z) h8p
      exact ⟨(IntKind.u64.wrap z % (L8 : Int)).toNat, by omega, by omega⟩
    have hA' : z % 18446744073709551616 % (L8 : Int) = (A : Int) := by rw [← IntKind.wrap_u64]; exact hA
    have hAt : (IntKind.u64.wrap z).tmod (L8 : Int) = (A : Int) := by
      rw [Int.tmod_eq_emod_of_nonneg (by rw [IntKind.wrap_u64]; omega)]; exact hA
    have H8 : Hid _ := hL8
    have HA : Hid _ := hAl
    have H0 : Hid (0 < bs.length) := by show 0 < bs.length; omega
    have hAi : (A : Int) < (L8 : Int) := by omega
    clear hL8 hAl h0
    go_enter Tryd.func5, Tryd.ntmps5
    go_wp2_with (at_builtin; refine wpAppendNil (.tmp 23) (.tmp 24) rfl rfl rfl rfl HB.out H0.out HLEN.out ?_; intro w1 g cp tail HR HG HB1)
    go_loopw [9, 10] (fun vc vi wr => Bursting w bs A g tail bt vc vi wr) (fun _ vi _ => 32 - (intOf vi).toNat)
    case atStart =>
      exact ⟨⟨0, bs, 0#32, by omega, rfl, rfl, rfl, by decide, by rw [Sn_zero, BitVec.xor_zero], HR.out, HB1.out⟩⟩
    case round =>
      obtain ⟨k, O, Wd, hk, rfl, rfl, hOl, hWd, hcr, hR, hb⟩ := hrel.ex
      clear hrel HR HB1
      by_cases hin : k < 32 ∧ A + k < L8
      · have hlt : (k : Int) < 32 := by omega
        have hlt2 : (A : Int) + (k : Int) < (L8 : Int) := by omega
        obtain ⟨q, t, hqt, ht⟩ : ∃ q t : Nat, A + k = 8 * q + t ∧ t < 8 := ⟨(A + k) / 8, (A + k) % 8, by omega, by omega⟩
        have hq : q < bs.length := by have := H8.out; omega
        have hdv : ((A : Int) + (k : Int)) / 8 = (q : Int) := by omega
        have hmd : ((A : Int) + (k : Int)) % 8 = (t : Int) := by omega
        have hsh := u_shr bt k
        have hqi : (q : Int) < (bs.length : Int) := by omega
        have HHI : Hid (Bursting w bs A g tail bt (.bool (decide (Wd ≠ 0#32))) (.int .i64 (k : Int)) wr) := ⟨k, O, Wd, hk, rfl, rfl, hOl, hWd, hcr, hR, hb⟩
        have hOq : q < O.length := by omega
        have c1 := hR.cell q (.int .u8 (ub O[q])) (by rw [List.getElem?_append_left (by rw [bcells_len]; omega)]; exact bcells_get hOq)
        have f1 := hR.frozen q
        have HOL : Hid _ := hOl
        have HWD : Hid _ := hWd
        have HCR : Hid _ := hcr
        have HR : Hid _ := hR
        have HBB : Hid _ := hb
        have HQT : Hid _ := hqt
        have HT : Hid _ := ht
        have HQ : Hid _ := hq
        have HOQ : Hid _ := hOq
        have HIN : Hid _ := hin
        clear hOl hWd hcr hR hb hqt ht hq hin
        rcases low_bit (bt >>> k) with hbit | hbit
        · have hv : bits .and .u32 (u (bt >>> k)) 1 = 1 := by rw [u_and1, hbit]; rfl
          have hs0 := shl_one t HT.out
          have hs1 : IntKind.u8.wrap (2 ^ t) = ub (1#8 <<< t) := by rw [hs0, ub_wrap_ub]
          have hs2 : IntKind.u8.wrap (1 * 2 ^ t) = ub (1#8 <<< t) := by rw [Int.one_mul, hs1]
          have hs3 : (2 : Int) ^ t % 256 = ub (1#8 <<< t) := by rw [← IntKind.wrap_u8']; exact hs1
          have NEW : Hid (Bursting w bs A g tail bt (.bool true) (.int .i64 ((k : Int) + 1)) (wr.setCell ⟨g, q, none⟩ (.int .u8 (ub (O[q] ^^^ 1#8 <<< t))))) := by
            have hin := HIN.out
            have hp := one_shl k hin.1
            have hne : Wd ^^^ 1#32 <<< k ≠ 0#32 := by
              intro e
              have e2 : Wd = 1#32 <<< k := by
                have := congrArg (· ^^^ 1#32 <<< k) e
                simpa [BitVec.xor_assoc] using this
              have := HWD.out
              rw [e2, hp] at this
              omega
            refine ⟨⟨k + 1, O.set q (O[q] ^^^ 1#8 <<< t), Wd ^^^ 1#32 <<< k, by omega, by go_num, by rw [decide_eq_true hne], by rw [List.length_set]; exact HOL.out, ?_, ?_, ?_, HBB.out.setCell (p := ⟨g, q, none⟩) HG.out _⟩⟩
            · rw [BitVec.toNat_xor, hp]
              refine Nat.xor_lt_two_pow ?_ ?_
              · exact Nat.lt_of_lt_of_le HWD.out (Nat.pow_le_pow_right (by decide) (by omega))
              · exact Nat.pow_lt_pow_right (by decide) (by omega)
            · refine (crc_flip O q HOQ.out (1#8 <<< t)).trans ?_
              rw [Sn_place O.length A q t k HQT.out HT.out hin.1 HOQ.out, HCR.out, HOL.out, Sn_xor, BitVec.xor_assoc]
            · have := HR.out.set q (.int .u8 (ub (O[q] ^^^ 1#8 <<< t)))
              rw [List.set_append_left _ _ (by rw [bcells_len]; exact HOQ.out), bcells_set] at this
              exact this
          clear hbit
          generalize O[q] = oq at *
          generalize 1#8 <<< t = xt at *
          go_wp2
          go_roundw
          case rel => exact NEW.out
          case measure => simp [intOf]; omega
        · have hv : bits .and .u32 (u (bt >>> k)) 1 = 0 := by rw [u_and1, hbit]; rfl
          have NEW : Hid (Bursting w bs A g tail bt (.bool (decide (Wd ≠ 0#32))) (.int .i64 ((k : Int) + 1)) wr) :=
            ⟨⟨k + 1, O, Wd, by have := HIN.out; omega, by go_num, rfl, HOL.out, Nat.lt_of_lt_of_le HWD.out (Nat.pow_le_pow_right (by decide) (by omega)), HCR.out, HR.out, HBB.out⟩⟩
          clear hbit
          generalize decide (Wd ≠ 0#32) = dc at *
          go_wp2
          go_roundw
          case rel => exact NEW.out
          case measure => simp [intOf]; omega
      · have HBT : Hid (BytesAt wr a bs) := HB.out.kept hb
        have HBO : Hid (BytesAt wr (some ⟨g, 0, none⟩) O) := by
          intro j hj
          refine ⟨g, 0, rfl, ?_⟩
          rw [Nat.zero_add]
          exact hR.cell j _ (by rw [List.getElem?_append_left (by rw [bcells_len]; exact hj)]; exact bcells_get hj)
        have HKN : Hid _ := known_any (HK.out.kept hb) (HC.out.kept hb) (Nat.le_trans H2.out hb.size)
        have HCW : Hid (CrcTab wr) := HC.out.kept hb
        have HBB : Hid _ := hb
        have HOL : Hid _ := hOl
        have HCE : Hid (∀ w0 p' l (ad : Option Addr) cp' (bs' : List (BitVec 8)), CrcTab w0 → w0.cell? ⟨p', 0, none⟩ = some (.slice ad bs'.length cp') → BytesAt w0 ad bs' → bs'.length = l → l ≤ 281474976710656 → Calls Tryd.prog 11 #[.slice (some ⟨p', 0, none⟩) 1 1] w0 fun e w' => e = .returned (.int .u32 (u (crc bs'))) ∧ w' = w0) := by
          intro w0 p' l ad cp' bs' hc h1 h2 h3 h4
          have hP : PartsAt w0 (some ⟨p', 0, none⟩) [bs'] := by
            intro j hj
            have : j = 0 := by simpa using hj
            subst this
            exact ⟨p', 0, ad, cp', rfl, h1, h2, by simp; omega⟩
          have := crc_any (cap := 1) hP hc (by simp)
          rw [show [bs'].flatten = bs' by simp] at this
          exact this
        have FIN : Hid (∀ c1 c2 : BitVec 32, c1 = crc bs → c2 = crc O → ((u c1 != u c2) == decide (Wd ≠ 0#32)) = true) := by
          intro c1 c2 e1 e2
          subst e1 e2
          by_cases hz : Wd = 0#32
          · have : crc O = crc bs := by rw [hcr, hz, Sn_zero, BitVec.xor_zero]
            rw [this, hz]; simp
          · have hne : crc bs ≠ crc O := by
              intro e
              rw [hcr] at e
              have h3 : Sn (8 * bs.length - A) Wd = 0#32 := by
                have := congrArg (crc bs ^^^ ·) e
                simp only [BitVec.xor_self, ← BitVec.xor_assoc, BitVec.zero_xor] at this
                exact this.symm
              exact hz (Sn_inj _ _ h3)
            have hu : (u (crc bs) != u (crc O)) = true := by
              rw [bne_iff_ne]; exact fun e => hne (u_inj e)
            rw [hu]; simp [hz]
        clear hb hR hcr hWd
        generalize decide (Wd ≠ 0#32) = dc at *
        rcases Nat.lt_or_ge k 32 with hk32 | hk32
        · have g1 : (k : Int) < 32 := by omega
          have g2 : ¬ ((A : Int) + (k : Int) < (L8 : Int)) := by omega
          have g3 : decide ((A : Int) + (k : Int) < (L8 : Int)) = false := decide_eq_false g2
          go_wp2_with (go_at_call 20; refine Calls.mono HKN.out ?_; rintro e w2 ⟨rfl, hb⟩; have HB2 : Hid _ := hb; clear hb)
          have b1 : Below w2.heap.size w2 (w2.alloc (.cells #[.slice a bs.length cap] 24)) := (Below.refl _ _).alloc (Nat.le_refl _) _
          refine Calls.mono (HCE.out _ _ bs.length a cap bs ((HCW.out.kept HB2.out).kept b1) (by simp) ((HBT.out.kept HB2.out).kept b1) rfl (Nat.le_trans HLEN.out (by decide))) ?_
          rintro e w3 ⟨rfl, hw3⟩
          have HC3 : Hid (CrcTab w3) := by show CrcTab w3; rw [hw3]; exact (HCW.out.kept HB2.out).kept b1
          have HO3 : Hid (BytesAt w3 (some ⟨g, 0, none⟩) O) := by show BytesAt _ _ _; rw [hw3]; exact (HBO.out.kept HB2.out).kept b1
          have HB3 : Hid (Below w.heap.size w w3) := by show Below _ _ _; rw [hw3]; exact HBB.out.trans ((HB2.out.mono HBB.out.size).trans (b1.mono (Nat.le_trans HBB.out.size HB2.out.size)))
          clear b1 hw3 HB2 HKN HBT HBO HCW HBB
          obtain ⟨c1, hc1⟩ : ∃ c1, c1 = crc bs := ⟨_, rfl⟩
          rw [← hc1]
          have HC1 : Hid _ := hc1
          clear hc1
          go_wp2_with fail
          have b2 : Below w3.heap.size w3 (w3.alloc (.cells #[.slice (some ⟨g, 0, none⟩) bs.length cp] 24)) := (Below.refl _ _).alloc (Nat.le_refl _) _
          refine Calls.mono (HCE.out _ _ bs.length (some ⟨g, 0, none⟩) cp O (HC3.out.kept b2) (by rw [HOL.out]; simp) (HO3.out.kept b2) HOL.out (Nat.le_trans HLEN.out (by decide))) ?_
          rintro e w4 ⟨rfl, hw4⟩
          have HB4 : Hid (Below w.heap.size w w4) := by show Below _ _ _; rw [hw4]; exact HB3.out.trans (b2.mono HB3.out.size)
          clear b2 hw4 HC3 HO3 HB3
          obtain ⟨c2, hc2⟩ : ∃ c2, c2 = crc O := ⟨_, rfl⟩
          rw [← hc2]
          have HC2 : Hid _ := hc2
          clear hc2
          have fin := FIN.out c1 c2 HC1.out HC2.out
          have HF : Hid _ := fin
          clear fin
          go_wp2
          go_ret
          refine ⟨?_, HB4.out⟩
          have hf := HF.out
          first
            | (rw [← hf]; rfl)
            | (simp only [hf])
            | (simpa using hf)
        · have ek : k = 32 := by omega
          have g1 : ¬ ((k : Int) < 32) := by omega
          have g3 : decide ((k : Int) < 32) = false := decide_eq_false g1
          go_wp2_with (go_at_call 20; refine Calls.mono HKN.out ?_; rintro e w2 ⟨rfl, hb⟩; have HB2 : Hid _ := hb; clear hb)
          have b1 : Below w2.heap.size w2 (w2.alloc (.cells #[.slice a bs.length cap] 24)) := (Below.refl _ _).alloc (Nat.le_refl _) _
          refine Calls.mono (HCE.out _ _ bs.length a cap bs ((HCW.out.kept HB2.out).kept b1) (by simp) ((HBT.out.kept HB2.out).kept b1) rfl (Nat.le_trans HLEN.out (by decide))) ?_
          rintro e w3 ⟨rfl, hw3⟩
          have HC3 : Hid (CrcTab w3) := by show CrcTab w3; rw [hw3]; exact (HCW.out.kept HB2.out).kept b1
          have HO3 : Hid (BytesAt w3 (some ⟨g, 0, none⟩) O) := by show BytesAt _ _ _; rw [hw3]; exact (HBO.out.kept HB2.out).kept b1
          have HB3 : Hid (Below w.heap.size w w3) := by show Below _ _ _; rw [hw3]; exact HBB.out.trans ((HB2.out.mono HBB.out.size).trans (b1.mono (Nat.le_trans HBB.out.size HB2.out.size)))
          clear b1 hw3 HB2 HKN HBT HBO HCW HBB
          obtain ⟨c1, hc1⟩ : ∃ c1, c1 = crc bs := ⟨_, rfl⟩
          rw [← hc1]
          have HC1 : Hid _ := hc1
          clear hc1
          go_wp2_with fail
          have b2 : Below w3.heap.size w3 (w3.alloc (.cells #[.slice (some ⟨g, 0, none⟩) bs.length cp] 24)) := (Below.refl _ _).alloc (Nat.le_refl _) _
          refine Calls.mono (HCE.out _ _ bs.length (some ⟨g, 0, none⟩) cp O (HC3.out.kept b2) (by rw [HOL.out]; simp) (HO3.out.kept b2) HOL.out (Nat.le_trans HLEN.out (by decide))) ?_
          rintro e w4 ⟨rfl, hw4⟩
          have HB4 : Hid (Below w.heap.size w w4) := by show Below _ _ _; rw [hw4]; exact HB3.out.trans (b2.mono HB3.out.size)
          clear b2 hw4 HC3 HO3 HB3
          obtain ⟨c2, hc2⟩ : ∃ c2, c2 = crc O := ⟨_, rfl⟩
          rw [← hc2]
          have HC2 : Hid _ := hc2
          clear hc2
          have fin := FIN.out c1 c2 HC1.out HC2.out
          have HF : Hid _ := fin
          clear fin
          go_wp2
          go_ret
          refine ⟨?_, HB4.out⟩
          have hf := HF.out
          first
            | (rw [← hf]; rfl)
            | (simp only [hf])
            | (simpa using hf)
end Go.Proofs.YtjhkoanjocdboaaDoor
