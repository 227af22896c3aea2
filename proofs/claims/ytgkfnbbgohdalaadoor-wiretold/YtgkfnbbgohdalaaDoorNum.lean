import Derived.Test.YtgkfnbbgohdalaaDoorPure1
namespace Go.Proofs.YtgkfnbbgohdalaaDoor
open Go.RowKit
set_option maxRecDepth 100000

theorem val_take (bs : List (BitVec 8)) (k : Nat) (h : k < bs.length) : val (bs.take (k + 1)) = val (bs.take k) * 256 + (bs[k]).toNat := by
  rw [List.take_succ_eq_append_getElem h, val_snoc]
theorem val_take_lt (bs : List (BitVec 8)) (k : Nat) (h : k ≤ 7) : val (bs.take k) < 72057594037927936 := by
  have h1 := val_lt (bs.take k)
  have h2 : (bs.take k).length ≤ 7 := by rw [List.length_take]; omega
  have h3 : 256 ^ (bs.take k).length ≤ 256 ^ 7 := Nat.pow_le_pow_right (by decide) h2
  have h4 : (256 : Nat) ^ 7 = 72057594037927936 := by decide
  omega
theorem or_low (n : Nat) (x : BitVec 8) (h : n < 72057594037927936) : bits .or .u64 ((n : Int) * 256) (ub x) = ((n * 256 + x.toNat : Nat) : Int) := by
  show IntKind.u64.wrap ((BitVec.ofInt 64 ((n : Int) * 256) ||| BitVec.ofInt 64 (ub x)).toNat : Int) = _
  have e1 : BitVec.ofInt 64 ((n : Int) * 256) = BitVec.ofNat 64 (n <<< 8) := by
    rw [Nat.shiftLeft_eq, show (n : Int) * 256 = ((n * 2 ^ 8 : Nat) : Int) by simp, BitVec.ofInt_natCast]
  have e2 : BitVec.ofInt 64 (ub x) = BitVec.ofNat 64 x.toNat := by rw [ub, BitVec.ofInt_natCast]
  have hx := x.isLt
  have hs : n <<< 8 = n * 256 := by rw [Nat.shiftLeft_eq]
  rw [e1, e2, BitVec.toNat_or, BitVec.toNat_ofNat, BitVec.toNat_ofNat, Nat.mod_eq_of_lt (by rw [hs]; omega), Nat.mod_eq_of_lt (by omega),
    ← Nat.shiftLeft_add_eq_or_of_lt (show x.toNat < 2 ^ 8 from hx), hs, IntKind.wrap_u64]
  omega

set_option maxHeartbeats 400000 in
theorem number_any {w : World} {a : Option Addr} {n cap : Nat} {bs : List (BitVec 8)} (hB : BytesAt w a bs) (hn : bs.length = n) (h8 : n ≤ 8) :
    Calls Tryd.prog 42 #[.slice a n cap] w fun e w' => e = .returned (.int .u64 (val bs : Nat)) ∧ w' = w := by
  have HB : Hid _ := hB
  clear hB
  subst hn
  have hl : (bs.length : Int) ≤ 8 := by omega
  have HL : Hid _ := h8
  clear h8
  go_enter Tryd.func42, Tryd.ntmps42
  go_wp2
  go_loopw [3, 8] (fun r i wr => ∃ k : Nat, k ≤ bs.length ∧ i = .int .i64 k ∧ r = .int .u64 (val (bs.take k) : Nat) ∧ wr = w) (fun _ i _ => bs.length - (intOf i).toNat)
  case atStart => exact ⟨0, Nat.zero_le _, rfl, rfl, rfl⟩
  case round =>
    obtain ⟨k, hk, rfl, rfl, rfl⟩ := hrel
    by_cases hlt : k < bs.length
    · obtain ⟨g, o, rfl, c1⟩ := HB.out k hlt
      have hs := val_take bs k hlt
      have hv := val_take_lt bs k (by have := HL.out; omega)
      generalize bs[k] = b at *
      generalize val (bs.take k) = r at *
      have HS : Hid _ := hs
      clear hs
      have o1 := or_low r b hv
      have hv' : (r : Int) * 256 < 18446744073709551616 := by omega
      have hbd := ub_bd b
      have e0 : IntKind.u64.wrap (ub b) = ub b := by rw [IntKind.wrap_u64]; omega
      have e1 : IntKind.u64.wrap ((r : Int) * 256) = (r : Int) * 256 := by rw [IntKind.wrap_u64]; omega
      have e2 : ((r : Int) * 256) % 18446744073709551616 = (r : Int) * 256 := by omega
      go_wp2
      go_roundw
      case rel => exact ⟨k + 1, hlt, by go_num, by rw [HS.out, Int.natCast_add, Int.natCast_mul]; rfl, trivial⟩
      case measure => simp [intOf]; omega
    · have e : k = bs.length := by omega
      subst e
      rw [List.take_length]
      go_wp2
      go_ret
      exact ⟨rfl, rfl⟩

/-- The row while the bytes of the number are laid from behind. -/
def midB (A X D B : List (BitVec 8)) (k : Nat) : List (BitVec 8) := A ++ (X.take k ++ (D.drop k ++ B))
theorem midB_set (A X D B : List (BitVec 8)) (k : Nat) (hk : k < X.length) (hD : D.length = X.length) : (midB A X D B (k + 1)).set (A.length + k) (D[k]'(by omega)) = midB A X D B k := by
  unfold midB
  rw [List.set_append_right _ _ (by omega), Nat.add_sub_cancel_left, List.take_succ_eq_append_getElem hk, List.append_assoc, List.set_append_right _ _ (by simp; omega), List.length_take, Nat.min_eq_left (by omega), Nat.sub_self]
  rw [List.drop_eq_getElem_cons (show k < D.length by omega)]
  rfl
theorem midB_get (A X D B : List (BitVec 8)) (k : Nat) (hk : k < X.length) (hD : D.length = X.length) : A.length + k < (midB A X D B (k + 1)).length := by
  unfold midB; simp; omega
theorem midB_zero (A X D B : List (BitVec 8)) : midB A X D B 0 = A ++ (D ++ B) := rfl
theorem midB_full (A X D B : List (BitVec 8)) (hD : D.length = X.length) : midB A X D B X.length = A ++ (X ++ B) := by
  unfold midB; rw [List.take_length, ← hD, List.drop_length, List.nil_append]

set_option maxHeartbeats 400000 in
/-- put: the bytes of a number, in the midst of a row. -/
theorem put_any {w : World} {g t o n cap : Nat} {A X B : List (BitVec 8)} (hR : Row w g (bcells (A ++ (X ++ B))) t) (ho : A.length = o) (hn : X.length = n) (h8 : n ≤ 8) (N : Nat) (hN : N < 18446744073709551616) :
    Calls Tryd.prog 20 #[.slice (some ⟨g, o, none⟩) n cap, .int .u64 (N : Int)] w fun e w' => e = .returned (.tuple #[]) ∧ Row w' g (bcells (A ++ (be n N ++ B))) t ∧ Only g w w' := by
  subst ho hn
  have HD : Hid ((be X.length N).length = X.length) := be_len _ _
  rw [← midB_full A X (be X.length N) B HD.out] at hR
  have HR : Hid _ := hR
  clear hR
  have hl : (X.length : Int) ≤ 8 := by omega
  have HL : Hid _ := h8
  have HN : Hid _ := hN
  have HG : Hid (∀ j, j < X.length → (be X.length N)[j]? = some (BitVec.ofNat 8 (N / 256 ^ (X.length - 1 - j)))) := fun j hj => by
    rw [List.getElem?_eq_getElem (by rw [be_len]; exact hj), be_get _ _ _ hj]
  clear h8 hN
  go_enter Tryd.func20, Tryd.ntmps20
  go_wp2
  go_loopw [1, 4] (fun m i wr => ∃ k : Nat, k ≤ X.length ∧ i = .int .i64 ((k : Int) - 1) ∧ m = .int .u64 (N / 256 ^ (X.length - k) : Nat) ∧ Row wr g (bcells (midB A X (be X.length N) B k)) t ∧ Only g w wr) (fun _ i _ => (intOf i + 1).toNat)
  case atStart => exact ⟨X.length, Nat.le_refl _, rfl, by rw [Nat.sub_self, Nat.pow_zero, Nat.div_one], HR.out, Only.refl _ _⟩
  case round =>
    obtain ⟨k, hk, rfl, rfl, R, ho⟩ := hrel
    by_cases hlt : 1 ≤ k
    · obtain ⟨j, rfl⟩ : ∃ j, k = j + 1 := ⟨k - 1, by omega⟩
      have hj : j < X.length := by omega
      obtain ⟨m, hm⟩ : ∃ m, m = N / 256 ^ (X.length - (j + 1)) := ⟨_, rfl⟩
      have hmlt : m < 18446744073709551616 := by rw [hm]; exact Nat.lt_of_le_of_lt (Nat.div_le_self _ _) HN.out
      have hm2 : N / 256 ^ (X.length - j) = m / 256 := by
        rw [hm, Nat.div_div_eq_div_mul, show X.length - j = (X.length - (j + 1)) + 1 by omega, Nat.pow_succ]
      have hD : (be X.length N)[j]'(by rw [be_len]; exact hj) = BitVec.ofNat 8 m := by
        have := HG.out j hj
        rw [List.getElem?_eq_getElem (by rw [be_len]; exact hj)] at this
        rw [Option.some.inj this, hm, show X.length - 1 - j = X.length - (j + 1) by omega]
      have hset := midB_set A X (be X.length N) B j hj HD.out
      rw [hD] at hset
      have f1 := R.frozen (A.length + j)
      obtain ⟨v, f2⟩ : ∃ v, wr.cell? ⟨g, A.length + j, none⟩ = some v := ⟨_, R.cell _ _ (bcells_get (midB_get A X (be X.length N) B j hj HD.out))⟩
      have hv : IntKind.u8.wrap (m : Int) = ub (BitVec.ofNat 8 m) := by rw [ub_wrap, BitVec.ofInt_natCast]
      have hv' : (m : Int) % 256 = ub (BitVec.ofNat 8 m) := by rw [← IntKind.wrap_u8']; exact hv
      rw [← hm]
      have HS : Hid _ := hset
      have HR2 : Hid _ := R
      have HO : Hid _ := ho
      have HM2 : Hid _ := hm2
      clear hset R ho hm hD hm2
      generalize BitVec.ofNat 8 m = ek at *
      have e1 : ((j + 1 : Nat) : Int) - 1 = (j : Int) := by omega
      rw [e1]
      have hj' : (j : Int) < (X.length : Int) := by omega
      go_wp2
      go_roundw
      case rel =>
        refine ⟨j, by omega, by go_num, ?_, ?_, HO.out.setCell _ _⟩
        · rw [HM2.out]; simp
        · have hr := HR2.out.set (A.length + j) (.int .u8 (ub ek))
          rw [bcells_set, HS.out] at hr
          exact hr
      case measure => simp [intOf]
    · have e : k = 0 := by omega
      subst e
      have HR2 : Hid _ := R
      have HO : Hid _ := ho
      clear R ho
      go_wp2
      go_end0
      exact ⟨rfl, by rw [← midB_zero A X]; exact HR2.out, HO.out⟩
end Go.Proofs.YtgkfnbbgohdalaaDoor
