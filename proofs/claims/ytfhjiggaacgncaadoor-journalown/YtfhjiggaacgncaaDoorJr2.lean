import Derived.Test.YtfhjiggaacgncaaDoorJr1
namespace Go.Proofs.YtfhjiggaacgncaaDoor
open Go.RowKit Go.Maps Go.Sort
set_option maxRecDepth 100000

def val (bs : List (BitVec 8)) : Nat := bs.foldl (fun a b => a * 256 + b.toNat) 0
theorem val_take (bs : List (BitVec 8)) (k : Nat) (h : k < bs.length) : val (bs.take (k + 1)) = val (bs.take k) * 256 + (bs[k]).toNat := by
  rw [List.take_succ_eq_append_getElem h, val, List.foldl_append]; rfl
theorem val_lt4 (bs : List (BitVec 8)) : ∀ k, k ≤ bs.length → k ≤ 4 → val (bs.take k) < 256 ^ k
  | 0, _, _ => by simp [val]
  | k + 1, h, h4 => by
    have ih := val_lt4 bs k (by omega) (by omega)
    have hx := (bs[k]'(by omega)).isLt
    rw [val_take bs k (by omega), Nat.pow_succ]
    omega
theorem or_low (n : Nat) (x : BitVec 8) (h : n < 16777216) : bits .or .i64 ((n : Int) * 256) (ub x) = ((n * 256 + x.toNat : Nat) : Int) := by
  show IntKind.i64.wrap ((BitVec.ofInt 64 ((n : Int) * 256) ||| BitVec.ofInt 64 (ub x)).toNat : Int) = _
  have e1 : BitVec.ofInt 64 ((n : Int) * 256) = BitVec.ofNat 64 (n <<< 8) := by
    rw [Nat.shiftLeft_eq, show (n : Int) * 256 = ((n * 2 ^ 8 : Nat) : Int) by simp, BitVec.ofInt_natCast]
  have e2 : BitVec.ofInt 64 (ub x) = BitVec.ofNat 64 x.toNat := by rw [ub, BitVec.ofInt_natCast]
  have hx := x.isLt
  have hs : n <<< 8 = n * 256 := by rw [Nat.shiftLeft_eq]
  rw [e1, e2, BitVec.toNat_or, BitVec.toNat_ofNat, BitVec.toNat_ofNat, Nat.mod_eq_of_lt (by rw [hs]; omega), Nat.mod_eq_of_lt (by omega),
    ← Nat.shiftLeft_add_eq_or_of_lt (show x.toNat < 2 ^ 8 from hx), hs, IntKind.wrap_i64]
  omega
/-- How many bytes the record at the front has. -/
def reachP (l : List (BitVec 8)) : Option Nat :=
  if l.length < 18 then none else if val (l.take 4) < 1 ∨ 65537 < val (l.take 4) ∨ l.length < 17 + val (l.take 4) then none else some (17 + val (l.take 4))
def reachV (o : Option Nat) : Value := match o with | some n => .tuple #[.int .i64 (n : Int), .bool true] | none => .tuple #[.int .i64 0, .bool false]
set_option maxHeartbeats 2000000 in
theorem reach_any {w : World} {a : Option Addr} {l : List (BitVec 8)} {L cap : Nat} (hB : BytesAt w a l) (hL : l.length = L) (hc : L ≤ cap) (hm : cap ≤ maxLen) (hl : L ≤ 16777216) :
    Calls Tryd.prog 71 #[.slice a L cap] w fun e w' => e = .returned (reachV (reachP l)) ∧ w' = w := by
  subst hL
  by_cases h18 : l.length < 18
  · have e : reachP l = none := by unfold reachP; rw [if_pos h18]
    rw [e]
    have h18' : (l.length : Int) < 18 := by omega
    clear hB e
    generalize l.length = L at *
    go_enter Tryd.func71, Tryd.ntmps71
    go_wp2
    go_ret2
    exact ⟨rfl, rfl⟩
  · have hli : (18 : Int) ≤ l.length := by omega
    have hci : (l.length : Int) ≤ cap := by omega
    unfold maxLen at hm
    have hmi : (cap : Int) ≤ 9223372036854775807 := by omega
    have h4c : (4 : Int) ≤ cap := by omega
    have h4n : ¬ cap < 4 := by omega
    have HB := hid hB
    have HV := hid (val_take l)
    have HVL := hid (val_lt4 l)
    have HE : Hid (reachP l = if val (l.take 4) < 1 ∨ 65537 < val (l.take 4) ∨ l.length < 17 + val (l.take 4) then none else some (17 + val (l.take 4))) := by
      show _ = _
      unfold reachP
      rw [if_neg h18]
    have HL18 := hid h18
    generalize reachP l = RP at *
    clear hB h18
    go_enter Tryd.func71, Tryd.ntmps71
    go_wp2
    go_loopw [4, 14] (fun r i wr => ∃ k : Nat, k ≤ 4 ∧ i = .int .i64 k ∧ r = .int .i64 (val (l.take k) : Nat) ∧ wr = w) (fun _ i _ => 4 - (intOf i).toNat)
    case atStart => exact ⟨0, Nat.zero_le _, rfl, rfl, rfl⟩
    case round =>
      obtain ⟨k, hk, rfl, rfl, rfl⟩ := hrel
      by_cases hlt : k < 4
      · obtain ⟨g, o, rfl, c1⟩ := HB.out k (by omega)
        have hs := HV.out k (by omega)
        have hv := HVL.out k (by omega) (by omega)
        have hv2 : val (l.take k) < 16777216 := by
          have : 256 ^ k ≤ 256 ^ 3 := Nat.pow_le_pow_right (by decide) (by omega)
          have : (256 : Nat) ^ 3 = 16777216 := by decide
          omega
        generalize l[k] = b at *
        generalize val (l.take k) = r at *
        have HS : Hid _ := hs
        have o1 := or_low r b hv2
        have hbd := ub_bd b
        have e0 : IntKind.i64.wrap (ub b) = ub b := by rw [IntKind.wrap_i64]; omega
        have e1 : IntKind.i64.wrap ((r : Int) * 256) = (r : Int) * 256 := by rw [IntKind.wrap_i64]; omega
        have hki : (k : Int) < 4 := by omega
        clear hs hv HV HVL HE HB
        go_wp2
        go_roundw
        case rel => exact ⟨k + 1, hlt, by go_num, by rw [HS.out, Int.natCast_add, Int.natCast_mul]; rfl, trivial⟩
        case measure => simp [intOf]; omega
      · obtain rfl : k = 4 := by omega
        have hv := HVL.out 4 (by omega) (by omega)
        generalize val (l.take 4) = r at *
        have hv' : (r : Int) < 4294967296 := by omega
        have hr0 : (0 : Int) ≤ r := by omega
        clear HB HV HVL HL18
        by_cases h1 : r < 1
        · have HE2 := hid (HE.out.trans (if_pos (.inl h1)))
          obtain rfl : r = 0 := by omega
          clear HE
          clear h1 hv hv' hr0
          go_wp2
          go_ret2
          exact ⟨by rw [HE2.out]; rfl, rfl⟩
        · obtain ⟨q, rfl⟩ : ∃ q, r = q + 1 := ⟨r - 1, by omega⟩
          have hq : (((q + 1 : Nat) : Int) - 1) = q := by omega
          have hq0 : (0 : Int) ≤ q := by omega
          have hqm : (q : Int) < 4294967296 := by omega
          have hqw : IntKind.i64.wrap (q : Int) = q := by rw [IntKind.wrap_i64]; omega
          have hq1 : ((q : Int) + 1 - 1) = q := by omega
          obtain ⟨t, ht⟩ : ∃ t, 18 + q = t := ⟨_, rfl⟩
          have ht1 : (18 : Int) + q = t := by omega
          have ht2 : IntKind.i64.wrap (t : Int) = t := by rw [IntKind.wrap_i64]; omega
          by_cases h2 : 65537 < q + 1
          · have HE2 := hid (HE.out.trans (if_pos (.inr (.inl h2))))
            clear HE
            have h2' : (65536 : Int) < q := by omega
            clear h1 h2 hv hv' hr0 ht1 ht2 ht hl
            go_wp2
            go_ret2
            exact ⟨by rw [HE2.out]; rfl, rfl⟩
          · have h2' : (q : Int) ≤ 65536 := by omega
            by_cases h3 : l.length < 17 + (q + 1)
            · have HE2 := hid (HE.out.trans (if_pos (.inr (.inr h3))))
              clear HE
              have h3' : (l.length : Int) < t := by omega
              clear h1 h2 hv hv' hr0 h3 ht hl
              go_wp2
              go_ret2
              exact ⟨by rw [HE2.out]; rfl, rfl⟩
            · have HE2 := hid (HE.out.trans (if_neg (by omega)))
              rw [show 17 + (q + 1) = t by omega] at HE2
              clear HE
              have h3' : (t : Int) ≤ l.length := by omega
              clear h1 h2 hv hv' hr0 h3 ht hl hm hc h4c h4n hci hmi hli hk hlt hq hqm hq0
              generalize l.length = L at *
              have h65 : ¬ (65536 : Int) < q := by omega
              have hq0 : ¬ (q : Int) < 0 := by omega
              have h66 : ¬ (L : Int) < t := by omega
              clear h2' h3'
              go_wp2
              go_ret2
              exact ⟨by rw [HE2.out]; rfl, rfl⟩
end Go.Proofs.YtfhjiggaacgncaaDoor
