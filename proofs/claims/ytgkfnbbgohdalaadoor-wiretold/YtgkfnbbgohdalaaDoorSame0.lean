import Derived.Test.YtgkfnbbgohdalaaDoorFr4
import Derived.Laws.BytesString
namespace Go.Proofs.YtgkfnbbgohdalaaDoor
open Go.RowKit
set_option maxRecDepth 100000

/-- Bytes as a string. -/
def toBA (bs : List (BitVec 8)) : ByteArray := (bs.map ub).foldl (fun r n => r.push (UInt8.ofNat n.toNat)) ByteArray.empty
theorem push_list (l : List (BitVec 8)) (s : ByteArray) : ((l.map ub).foldl (fun r n => r.push (UInt8.ofNat n.toNat)) s).data.toList = s.data.toList ++ l.map (fun b => UInt8.ofNat b.toNat) := by
  induction l generalizing s with
  | nil => simp
  | cons b l ih =>
    rw [List.map_cons, List.foldl_cons, ih]
    simp [ByteArray.push, ub]
theorem toBA_list (l : List (BitVec 8)) : (toBA l).data.toList = l.map (fun b => UInt8.ofNat b.toNat) := by
  unfold toBA; rw [push_list]; rfl
theorem u8_inj {x y : BitVec 8} (h : UInt8.ofNat x.toNat = UInt8.ofNat y.toNat) : x = y := by
  have h2 := congrArg UInt8.toNat h
  have hx := x.isLt
  have hy := y.isLt
  simp only [UInt8.toNat_ofNat'] at h2
  exact BitVec.eq_of_toNat_eq (by omega)
theorem toBA_inj {x y : List (BitVec 8)} (h : toBA x = toBA y) : x = y := by
  have h2 := congrArg (fun s : ByteArray => s.data.toList) h
  simp only [toBA_list] at h2
  exact (List.map_inj_right (fun _ _ => u8_inj)).1 h2
theorem toBA_eq (x y : List (BitVec 8)) : (toBA x = toBA y) = (x = y) := propext ⟨toBA_inj, fun h => by rw [h]⟩

theorem conv_bytes {w : World} {a : Option Addr} {n c : Nat} {bs : List (BitVec 8)} (hB : BytesAt w a bs) (hn : bs.length = n) : (convert 23 9 (.slice a n c)).run Tryd.prog w = .ok (.string (toBA bs)) w := by
  rw [run_convert_bytes_string w 23 9 5 a n c Tryd.underlying23 Tryd.underlying5 Tryd.underlying9]
  subst hn
  cases a with
  | none =>
    cases bs with
    | nil => rfl
    | cons b bs => obtain ⟨_, _, e, _⟩ := hB 0 (by simp); cases e
  | some ad =>
    refine run_bytesToString w ad bs.length c (bs.map ub) ?_
    have := run_loadCells_list (P := Tryd.prog) w ad (bcells bs) (fun j v hv => by
      have hj : j < bs.length := by have := (List.getElem?_eq_some_iff.1 hv).1; rwa [bcells_len] at this
      obtain ⟨g2, o2, e2, c2⟩ := hB j hj
      cases e2
      rw [bcells_get hj] at hv
      rw [Addr.add_mid, c2]
      exact hv)
    rw [bcells_len] at this
    rw [this]
    simp [bcells, bv, Function.comp_def]

theorem ba_eq (x y : List (BitVec 8)) : ((toBA x).toList == (toBA y).toList) = decide (x = y) := by
  rw [Bool.eq_iff_iff, beq_iff_eq, decide_eq_true_eq, ByteArray.toList_eq, ByteArray.toList_eq, toBA_list, toBA_list]
  exact List.map_inj_right (fun _ _ => u8_inj)
set_option maxHeartbeats 400000 in
theorem sameB_any {w : World} {a b : Option Addr} {n m c d : Nat} {x y : List (BitVec 8)} (hx : BytesAt w a x) (hn : x.length = n) (hy : BytesAt w b y) (hm : y.length = m) :
    Calls Tryd.prog 24 #[.slice a n c, .slice b m d] w fun e w' => e = .returned (.bool (decide (x = y))) ∧ w' = w := by
  have h1 := conv_bytes (c := c) hx hn
  have h2 := conv_bytes (c := d) hy hm
  have HE : Hid _ := ba_eq x y
  clear hx hy hn hm
  rw [← HE.out]
  clear HE
  generalize toBA x = sx at *
  generalize toBA y = sy at *
  go_enter Tryd.func24, Tryd.ntmps24
  go_wp2
  go_ret
  exact ⟨rfl, rfl⟩
set_option maxHeartbeats 400000 in
theorem samePlain_any {w : World} {a b : Option Addr} {n m c d : Nat} {x y : List (BitVec 8)} (hx : BytesAt w a x) (hn : x.length = n) (hy : BytesAt w b y) (hm : y.length = m) :
    Calls Tryd.prog 12 #[.slice a n c, .slice b m d] w fun e w' => e = .returned (.bool (decide (x = y))) ∧ w' = w := by
  have h1 := conv_bytes (c := c) hx hn
  have h2 := conv_bytes (c := d) hy hm
  have HE : Hid _ := ba_eq x y
  clear hx hy hn hm
  rw [← HE.out]
  clear HE
  generalize toBA x = sx at *
  generalize toBA y = sy at *
  go_enter Tryd.func12, Tryd.ntmps12
  go_wp2
  go_ret
  exact ⟨rfl, rfl⟩

theorem agree_next {l m : List (Nat × Nat)} {k : Nat} (h : l.take k = m.take k) (h1 : k < l.length) (h2 : k < m.length) (e : l[k] = m[k]) : l.take (k + 1) = m.take (k + 1) := by
  rw [List.take_succ_eq_append_getElem h1, List.take_succ_eq_append_getElem h2, h, e]
set_option maxHeartbeats 2000000 in
theorem sameR_any {w : World} {a b : Option Addr} {n1 n2 c d : Nat} {l m : List (Nat × Nat)} (hl : RangesAt w a l) (hn : l.length = n1) (hm : RangesAt w b m) (hn2 : m.length = n2) (hbig : n1 ≤ 281474976710656) (hbig2 : n2 ≤ 281474976710656) :
    Calls Tryd.prog 25 #[.slice a n1 c, .slice b n2 d] w fun e w' => e = .returned (.bool (decide (l = m))) ∧ Below w.heap.size w w' := by
  have HL : Hid (RangesAt w a l) := hl
  have HM : Hid (RangesAt w b m) := hm
  have HN : Hid _ := hn
  have HN2 : Hid _ := hn2
  have g1 : (n1 : Int) ≤ 281474976710656 := by omega
  have g2 : (n2 : Int) ≤ 281474976710656 := by omega
  clear hl hm hn hn2 hbig hbig2
  by_cases hne : n1 = n2
  · subst hne
    go_enter Tryd.func25, Tryd.ntmps25
    go_wp2
    go_loopw [13] (fun i wr => ∃ k : Nat, k ≤ n1 ∧ i = .int .i64 k ∧ l.take k = m.take k ∧ Below w.heap.size w wr) (fun i _ => n1 - (intOf i).toNat)
    case atStart => exact ⟨0, Nat.zero_le _, rfl, rfl, Below.refl _ _⟩
    case round =>
      obtain ⟨k, hk, rfl, htk, hb⟩ := hrel
      have HTK : Hid _ := htk
      have HB : Hid _ := hb
      clear htk hb
      by_cases hlt : k < n1
      · have hki : (k : Int) < (n1 : Int) := by omega
        have k1 : k < l.length := by rw [HN.out]; exact hlt
        have k2 : k < m.length := by rw [HN2.out]; exact hlt
        obtain ⟨ga, oa, rfl, x0, x1⟩ := HL.out k k1
        obtain ⟨gb, ob, rfl, y0, y1⟩ := HM.out k k2
        have x0' := cell_kept HB.out x0
        have x1' := cell_kept HB.out x1
        have y0' := cell_kept HB.out y0
        have y1' := cell_kept HB.out y1
        have HNX : Hid _ := agree_next HTK.out k1 k2
        have HNE : Hid (l[k] ≠ m[k] → decide (l = m) = false) := fun h => decide_eq_false fun e => h (by subst e; rfl)
        clear x0 x1 y0 y1
        generalize l[k] = p at *
        generalize m[k] = q at *
        obtain ⟨p1, p2⟩ := p
        obtain ⟨q1, q2⟩ := q
        simp only at x0' x1' y0' y1'
        by_cases e : (p1, p2) = (q1, q2)
        · have e1 : p1 = q1 := by simpa using congrArg Prod.fst e
          have e2 : p2 = q2 := by simpa using congrArg Prod.snd e
          subst e1 e2
          go_wp2
          go_quiet (fail)
          go_wp2
          go_roundw
          case rel => exact ⟨k + 1, hlt, by go_num, HNX.out trivial, below_drawn HB.out _⟩
          case measure => simp [intOf]; omega
        · have e3 : p1 ≠ q1 ∨ p2 ≠ q2 := by
            by_cases h1 : p1 = q1
            · right; intro h2; exact e (by rw [h1, h2])
            · left; exact h1
          have e4 : ¬ ((p1 : Int) = (q1 : Int) ∧ (p2 : Int) = (q2 : Int)) := by omega
          have HEF : Hid _ := HNE.out e
          clear e HNE
          rcases e3 with h | h
          · have i1 : ¬ (p1 : Int) = (q1 : Int) := by omega
            have i2 : ((p1 : Int) == (q1 : Int)) = false := by rw [beq_eq_false_iff_ne]; exact i1
            go_wp2
            go_quiet (fail)
            go_wp2
            go_ret
            exact ⟨by rw [HEF.out]; rfl, below_drawn HB.out _⟩
          · have i1 : ¬ (p2 : Int) = (q2 : Int) := by omega
            have i2 : ((p2 : Int) == (q2 : Int)) = false := by rw [beq_eq_false_iff_ne]; exact i1
            go_wp2
            go_quiet (fail)
            go_wp2
            go_ret
            exact ⟨by rw [HEF.out]; rfl, below_drawn HB.out _⟩
      · have e : k = n1 := by omega
        subst e
        have : l = m := by
          have h := HTK.out
          rwa [List.take_of_length_le (by rw [HN.out]; exact Nat.le_refl _), List.take_of_length_le (by rw [HN2.out]; exact Nat.le_refl _)] at h
        have HEQ : Hid (l = m) := this
        clear this
        go_wp2
        go_ret
        exact ⟨by rw [decide_eq_true HEQ.out]; rfl, HB.out⟩
  · have e : decide (l = m) = false := decide_eq_false fun h => hne (by rw [← HN.out, ← HN2.out, h])
    rw [e]
    have i1 : ((n1 : Int) != (n2 : Int)) = true := by rw [bne_iff_ne]; omega
    have i2 : ¬ (n1 : Int) = (n2 : Int) := by omega
    go_enter Tryd.func25, Tryd.ntmps25
    go_wp2
    go_ret
    exact ⟨rfl, Below.refl _ _⟩
end Go.Proofs.YtgkfnbbgohdalaaDoor
