import Derived.Test.YtjhkoanjocdboabDoorNumbers1
namespace Go.Proofs.YtjhkoanjocdboabDoor
open Go.RowKit
set_option maxRecDepth 100000

theorem token_byte (E : List (BitVec 8)) (k : Nat) (hk : k < 4) : (tokenOf E >>> (24 - 8 * k)).setWidth 8 = E.getD k 0 := by
  unfold tokenOf
  rw [word4_byte _ _ _ _ k hk]
  match k, hk with
  | 0, _ => rfl
  | 1, _ => rfl
  | 2, _ => rfl
  | 3, _ => rfl
theorem first_byte (E : List (BitVec 8)) (k : Nat) (hk : k < 8) : (firstOf E >>> (56 - 8 * k)).setWidth 8 = E.getD (24 + k) 0 := by
  unfold firstOf
  rw [word8_byte _ _ _ _ _ _ _ _ k hk]
  match k, hk with
  | 0, _ => rfl
  | 1, _ => rfl
  | 2, _ => rfl
  | 3, _ => rfl
  | 4, _ => rfl
  | 5, _ => rfl
  | 6, _ => rfl
  | 7, _ => rfl

set_option maxHeartbeats 1200000 in
theorem numbers_any {w : World} (N : Nat) (hN : N < 18446744073709551616) (hK : KTab w) (hC : CrcTab w) (h2 : 2 ≤ w.heap.size) :
    Calls Tryd.prog 3 #[.int .u64 (N : Int)] w fun e w' => e = .returned (.bool true) ∧ Below w.heap.size w w' := by
  have HK : Hid (KTab w) := hK
  have HC : Hid (CrcTab w) := hC
  have H2 : Hid _ := h2
  have HN : Hid _ := hN
  have I26 : Hid _ := i44
  clear hK hC h2 hN
  go_enter Tryd.func3, Tryd.ntmps3
  go_wp2_with (at_make; refine wpMakeB _ _ .i64 8 rfl rfl rfl rfl (by decide) ?_; intro w1 HW)
  go_loopw [4] (fun i wr => ∃ k : Nat, k ≤ 8 ∧ i = .int .i64 k ∧ Row wr w.heap.size (bcells (e8 N k)) 5 ∧ Below w.heap.size w wr) (fun i _ => 8 - (intOf i).toNat)
  case atStart =>
    exact ⟨0, by omega, rfl, by rw [HW.out]; exact Row.new _ _ _, by rw [HW.out]; exact (Below.refl _ _).alloc (Nat.le_refl _) _⟩
  case round =>
    obtain ⟨k, hk, rfl, R1, hb⟩ := hrel
    clear HW
    by_cases hlt : k < 8
    · have hlt' : (k : Int) < 8 := by omega
      obtain ⟨sh, hsh⟩ : ∃ sh, sh = 56 - 8 * k := ⟨_, rfl⟩
      have h1 : (56 : Int) - 8 * (k : Int) = (sh : Int) := by omega
      have h2 : (sh : Int) ≤ 64 := by omega
      have hv : IntKind.u8.wrap ((N : Int) / 2 ^ sh) = ub (eb N k) := by
        rw [IntKind.wrap_u8', ub, eb, BitVec.toNat_ofNat, hsh]; simp
      have hv' : ((N : Int) / 2 ^ sh) % 256 = ub (eb N k) := by rw [← IntKind.wrap_u8']; exact hv
      have f1 := R1.frozen k
      obtain ⟨v, f2⟩ : ∃ v, wr.cell? ⟨w.heap.size, k, none⟩ = some v := ⟨_, R1.cell k _ (bcells_get (by rw [e8_len _ _ hk]; exact hlt))⟩
      have HR1 : Hid _ := R1
      have HB : Hid _ := hb
      have HS : Hid _ := e8_set N k hlt
      clear R1 hb hsh
      generalize eb N k = ek at *
      go_wp2
      go_roundw
      case rel =>
        refine ⟨k + 1, hlt, by go_num, ?_, HB.out.setCell (show w.heap.size ≤ w.heap.size by omega) _⟩
        have hr := HR1.out.set k (.int .u8 (ub ek))
        rw [bcells_set, HS.out] at hr
        exact hr
      case measure => simp [intOf]; omega
    · have ek : k = 8 := by omega
      subst ek
      have e1 : e8 N 8 = eightL N := by simp [e8, eightL]
      rw [e1] at R1
      have LE : (eightL N).length = 8 := by simp [eightL]
      have b1 : Below wr.heap.size wr (wr.alloc (.cells #[.slice (some ⟨w.heap.size, 0, none⟩) 8 8] 23)) := (Below.refl _ _).alloc (Nat.le_refl _) _
      have HO : Hid (Calls Tryd.prog 8 #[.slice (some ⟨wr.heap.size, 0, none⟩) 1 1] (wr.alloc (.cells #[.slice (some ⟨w.heap.size, 0, none⟩) 8 8] 23)) fun e w' => e = .returned (.agg (bcells (sha (eightL N))).toArray) ∧ Below (wr.alloc (.cells #[.slice (some ⟨w.heap.size, 0, none⟩) 8 8] 23)).heap.size (wr.alloc (.cells #[.slice (some ⟨w.heap.size, 0, none⟩) 8 8] 23)) w') := by
        have := of_any (cap := 1) (parts_one (w := wr.alloc (.cells #[.slice (some ⟨w.heap.size, 0, none⟩) 8 8] 23)) (g := wr.heap.size) (ad := some ⟨w.heap.size, 0, none⟩) (cap := 8) (bs := eightL N) (by rw [LE]; simp) (R1.bytesAt.kept b1) (by rw [LE]; exact Nat.le_refl _) (by decide)) (by simp) ((HK.out.kept hb).kept b1) (by have h1 := H2.out; have h2 := hb.size; have h3 := b1.size; omega)
        rw [show [eightL N].flatten = eightL N by simp] at this
        exact this
      have HB1 : Hid (Below w.heap.size w (wr.alloc (.cells #[.slice (some ⟨w.heap.size, 0, none⟩) 8 8] 23))) := hb.trans (b1.mono hb.size)
      have HT : Hid (∀ wq, Below w.heap.size w wq → Calls Tryd.prog 9 #[.int .u64 (N : Int)] wq fun e w' => e = .returned (.int .u32 (u (tokenOf (sha (eightL N))))) ∧ Below wq.heap.size wq w') := fun wq hq => token_any N HN.out (HK.out.kept hq) (Nat.le_trans H2.out hq.size)
      have HF : Hid (∀ wq, Below w.heap.size w wq → Calls Tryd.prog 10 #[.int .u64 (N : Int)] wq fun e w' => e = .returned (.int .u64 (uu (firstOf (sha (eightL N))))) ∧ Below wq.heap.size wq w') := fun wq hq => first_any N HN.out (HK.out.kept hq) (Nat.le_trans H2.out hq.size)
      have HLS : Hid ((sha (eightL N)).length = 32) := sha_len _
      clear R1 b1 hb LE e1
      generalize sha (eightL N) = E at *
      go_wp2_with (first
        | (go_at_call 8; refine Calls.mono HO.out ?_; rintro e w4 ⟨rfl, hb4⟩; have HB4 : Hid (Below w.heap.size w w4) := (HB1.out.trans (hb4.mono HB1.out.size)); clear hb4)
        | (show wpList _ _ _ (Oper.mk none (.store 26 (.tmp 5) (.tmp 27)) _ _ _ _ :: _) _ _; refine (Row.new' w4 _ (bcells z32) 26 _ rfl rfl).wpStore' 26 (.tmp 5) (.tmp 27) (bcells E) rfl rfl rfl rfl (by rw [bcells_len, bcells_len, HLS.out]; rfl) (bcells_one _) (by rw [bcells_len, HLS.out]; exact I26.out) ?_; intro wz HZ; have HR : Hid (Row wz w4.heap.size (bcells E) 26) := (by show Row _ _ _ _; rw [HZ.out]; exact (Row.new' w4 _ (bcells z32) 26 _ rfl rfl).row _); have HBz : Hid (Below w.heap.size w wz) := (by show Below _ _ _; rw [HZ.out]; exact Go.below_setRow (HB4.out.alloc HB4.out.size _) HB4.out.size _); clear HZ)
        | (go_at_call 9; refine Calls.mono (HT.out _ HBz.out) ?_; rintro e w5 ⟨rfl, hb5⟩; have HB5 : Hid (Below w.heap.size w w5) := (HBz.out.trans (hb5.mono HBz.out.size)); have HR5 : Hid (Row w5 w4.heap.size (bcells E) 26) := (HR.out.kept hb5 HR.out.lt); clear hb5)
        | (go_at_call 10; refine Calls.mono (HF.out _ HB5.out) ?_; rintro e w6 ⟨rfl, hb6⟩; have HB6 : Hid (Below w.heap.size w w6) := (HB5.out.trans (hb6.mono HB5.out.size)); have HR6 : Hid (Row w6 w4.heap.size (bcells E) 26) := (HR5.out.kept hb6 HR5.out.lt); clear hb6))
      clear HO HB1 HT HF HB4 HR HBz HB5 HR5
      generalize w4.heap.size = g at *
      have HTB : Hid (∀ k, k < 4 → (tokenOf E >>> (24 - 8 * k)).setWidth 8 = E.getD k 0) := token_byte E
      have HFB : Hid (∀ k, k < 8 → (firstOf E >>> (56 - 8 * k)).setWidth 8 = E.getD (24 + k) 0) := first_byte E
      generalize tokenOf E = T at *
      generalize firstOf E = F at *
      go_loopw [8] (fun i wr => ∃ k : Nat, k ≤ 4 ∧ i = .int .i64 k ∧ w6 = wr) (fun i _ => 4 - (intOf i).toNat)
      case atStart => exact ⟨0, by omega, rfl, rfl⟩
      case round =>
        obtain ⟨k, hk, rfl, rfl⟩ := hrel
        by_cases hlt : k < 4
        · have hlt' : (k : Int) < 4 := by omega
          have hlt2 : (k : Int) < 32 := by omega
          have hlt3 : k < 32 := by omega
          obtain ⟨sh, hsh⟩ : ∃ sh, sh = 24 - 8 * k := ⟨_, rfl⟩
          have h1 : (24 : Int) - 8 * (k : Int) = (sh : Int) := by omega
          have h2 : (sh : Int) ≤ 32 := by omega
          have hbv : (T >>> sh).setWidth 8 = E.getD k 0 := by rw [hsh]; exact HTB.out k hlt
          have hv : IntKind.u8.wrap (u T / 2 ^ sh) = ub (E.getD k 0) := by
            rw [← hbv, IntKind.wrap_u8', u, ub, BitVec.toNat_setWidth, BitVec.toNat_ushiftRight, Nat.shiftRight_eq_div_pow]; simp
          have hv' : u T / 2 ^ sh % 256 = ub (E.getD k 0) := by rw [← IntKind.wrap_u8']; exact hv
          have c := sgetb HLS.out HR6.out k hlt3
          clear hsh
          generalize E.getD k 0 = ek at *
          go_wp2
          go_roundw
          case rel => exact ⟨k + 1, hlt, by go_num, by first | rfl | trivial⟩
          case measure => simp [intOf]; omega
        · have ek : k = 4 := by omega
          subst ek
          go_wp2
          go_loopw [9] (fun i wr => ∃ k : Nat, k ≤ 8 ∧ i = .int .i64 k ∧ w6 = wr) (fun i _ => 8 - (intOf i).toNat)
          case atStart => exact ⟨0, by omega, rfl, rfl⟩
          case round =>
            obtain ⟨k, hk, rfl, rfl⟩ := hrel
            by_cases hlt : k < 8
            · have hlt' : (k : Int) < 8 := by omega
              obtain ⟨m, hm⟩ : ∃ m, m = 24 + k := ⟨_, rfl⟩
              have hm1 : (24 : Int) + (k : Int) = (m : Int) := by omega
              have hlt2 : (m : Int) < 32 := by omega
              have hlt3 : m < 32 := by omega
              obtain ⟨sh, hsh⟩ : ∃ sh, sh = 56 - 8 * k := ⟨_, rfl⟩
              have h1 : (56 : Int) - 8 * (k : Int) = (sh : Int) := by omega
              have h2 : (sh : Int) ≤ 64 := by omega
              have hbv : (F >>> sh).setWidth 8 = E.getD m 0 := by rw [hsh, hm]; exact HFB.out k hlt
              have hv : IntKind.u8.wrap (uu F / 2 ^ sh) = ub (E.getD m 0) := by
                rw [← hbv, uu_shr, byte_of_uu]
              have hv' : uu F / 2 ^ sh % 256 = ub (E.getD m 0) := by rw [← IntKind.wrap_u8']; exact hv
              have c := sgetb HLS.out HR6.out m hlt3
              clear hsh hm
              generalize E.getD m 0 = ek at *
              go_wp2
              go_roundw
              case rel => exact ⟨k + 1, hlt, by go_num, by first | rfl | trivial⟩
              case measure => simp [intOf]; omega
            · have ek : k = 8 := by omega
              subst ek
              go_wp2_with (go_at_call 11; refine (known_any (HK.out.kept HB6.out) (HC.out.kept HB6.out) (Nat.le_trans H2.out HB6.out.size)).mono ?_; rintro e w7 ⟨rfl, hb7⟩; have HB7 : Hid _ := hb7; clear hb7)
              go_ret
              exact ⟨rfl, HB6.out.trans (HB7.out.mono HB6.out.size)⟩
end Go.Proofs.YtjhkoanjocdboabDoor
