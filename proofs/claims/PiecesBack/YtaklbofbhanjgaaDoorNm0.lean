import Derived.Test.YtaklbofbhanjgaaDoorRows0
import Derived.Laws.IdiomStrings
import Derived.Laws.Strings
namespace Go.Proofs.YtaklbofbhanjgaaDoor
open Go.RowKit
set_option maxRecDepth 100000
/-! What a file may be called. -/
def okC (c : UInt8) : Bool := !(decide (c.toNat < 32) || decide (c.toNat = 127) || decide (c.toNat = 47))
def namedB (nm : ByteArray) : Bool := !(decide (nm.size = 0) || decide (255 < nm.size) || decide (nm.toList = [46]) || decide (nm.toList = [46, 46])) && nm.toList.all okC
theorem ba_len (nm : ByteArray) : nm.toList.length = nm.size := by rw [ByteArray.toList_eq]; rfl
theorem ba_get (nm : ByteArray) (i : Nat) (h : i < nm.size) : nm.toList[i]'(by rw [ba_len]; exact h) = nm[i] := by
  have : nm.toList[i]? = some nm[i] := by rw [ByteArray.toList_eq, Array.getElem?_toList]; exact Array.getElem?_eq_getElem h
  exact (List.getElem?_eq_some_iff.1 this).2
theorem namedB_all {nm : ByteArray} (h1 : ¬ nm.size = 0) (h2 : ¬ 255 < nm.size) (h3 : ¬ nm.toList = [46]) (h4 : ¬ nm.toList = [46, 46]) : namedB nm = nm.toList.all okC := by
  unfold namedB; rw [decide_eq_false h1, decide_eq_false h2, decide_eq_false h3, decide_eq_false h4]; rfl
set_option maxHeartbeats 2000000 in
theorem named_any {nm : ByteArray} {w : World} : Calls Tryd.prog 49 #[.string nm] w fun e w' => e = .returned (.bool (namedB nm)) ∧ w' = w := by
  by_cases h1 : nm.size = 0
  · have HN : Hid (namedB nm = false) := by show _ = _; unfold namedB; rw [decide_eq_true h1]; rfl
    have b1 : ((nm.size : Int) == 0) = true := by simp [h1]
    clear h1
    go_enter Tryd.func49, Tryd.ntmps49
    go_wp2
    go_ret
    exact ⟨by rw [HN.out]; rfl, rfl⟩
  by_cases h2 : 255 < nm.size
  · have HN : Hid (namedB nm = false) := by show _ = _; unfold namedB; rw [decide_eq_true h2]; simp
    have b1 : ((nm.size : Int) == 0) = false := by rw [beq_eq_false_iff_ne]; omega
    have b2 : decide (255 < (nm.size : Int)) = true := decide_eq_true (by omega)
    clear h1 h2
    go_enter Tryd.func49, Tryd.ntmps49
    go_wp2
    go_ret
    exact ⟨by rw [HN.out]; rfl, rfl⟩
  by_cases h3 : nm.toList = [46]
  · have HN : Hid (namedB nm = false) := by show _ = _; unfold namedB; rw [decide_eq_true h3]; simp
    have b1 : ((nm.size : Int) == 0) = false := by rw [beq_eq_false_iff_ne]; omega
    have b2 : decide (255 < (nm.size : Int)) = false := decide_eq_false (by omega)
    have b3 : (nm.toList == [46]) = true := by rw [h3]; rfl
    clear h1 h2 h3
    go_enter Tryd.func49, Tryd.ntmps49
    go_wp2
    go_ret
    exact ⟨by rw [HN.out]; rfl, rfl⟩
  by_cases h4 : nm.toList = [46, 46]
  · have HN : Hid (namedB nm = false) := by show _ = _; unfold namedB; rw [decide_eq_true h4]; simp
    have b1 : ((nm.size : Int) == 0) = false := by rw [beq_eq_false_iff_ne]; omega
    have b2 : decide (255 < (nm.size : Int)) = false := decide_eq_false (by omega)
    have b3 : (nm.toList == [46]) = false := by rw [h4]; rfl
    have b4 : (nm.toList == [46, 46]) = true := by rw [h4]; rfl
    clear h1 h2 h3 h4
    go_enter Tryd.func49, Tryd.ntmps49
    go_wp2
    go_ret
    exact ⟨by rw [HN.out]; rfl, rfl⟩
  have HN : Hid (namedB nm = nm.toList.all okC) := namedB_all h1 h2 h3 h4
  have b1 : ((nm.size : Int) == 0) = false := by rw [beq_eq_false_iff_ne]; omega
  have b2 : decide (255 < (nm.size : Int)) = false := decide_eq_false (by omega)
  have b3 : (nm.toList == [46]) = false := by simpa using h3
  have b4 : (nm.toList == [46, 46]) = false := by simpa using h4
  have hs : nm.size ≤ 255 := by omega
  clear h1 h2 h3 h4
  go_enter Tryd.func49, Tryd.ntmps49
  go_wp2
  clear b1 b2 b3 b4
  go_loopw [23] (fun i wr => ∃ k : Nat, k ≤ nm.size ∧ i = .int .i64 k ∧ Hid ((nm.toList.take k).all okC = true) ∧ wr = w) (fun i _ => nm.size - (intOf i).toNat)
  case atStart => exact ⟨0, Nat.zero_le _, rfl, rfl, rfl⟩
  case round =>
    obtain ⟨k, hk, rfl, HA, rfl⟩ := hrel
    by_cases hlt : k < nm.size
    · have HC : Hid (nm.toList[k]'(by rw [ba_len]; exact hlt) = nm[k]) := ba_get nm k hlt
      have HT : Hid ((nm.toList.take (k + 1)).all okC = ((nm.toList.take k).all okC && okC nm[k])) := by
        show _ = _
        rw [List.take_succ_eq_append_getElem (by rw [ba_len]; exact hlt), List.all_append, HC.out]; simp
      have HM : Hid (nm[k] ∈ nm.toList) := by show _ ∈ _; rw [← HC.out]; exact List.getElem_mem _
      clear HC
      by_cases c1 : nm[k].toNat < 32
      · have HF : Hid (okC nm[k] = false) := by show _ = _; unfold okC; rw [decide_eq_true c1]; rfl
        have d1 : decide ((nm[k].toNat : Int) < 32) = true := decide_eq_true (by omega)
        clear c1
        go_wp2
        go_ret
        exact ⟨by rw [HN.out, List.all_eq_false.2 ⟨_, HM.out, by rw [HF.out]; simp⟩]; rfl, rfl⟩
      have d1 : decide ((nm[k].toNat : Int) < 32) = false := decide_eq_false (by omega)
      by_cases c2 : nm[k].toNat = 127
      · have HF : Hid (okC nm[k] = false) := by show _ = _; unfold okC; rw [decide_eq_true c2]; simp
        have d2 : ((nm[k].toNat : Int) == 127) = true := by rw [beq_iff_eq]; omega
        clear c1 c2
        go_wp2
        go_ret
        exact ⟨by rw [HN.out, List.all_eq_false.2 ⟨_, HM.out, by rw [HF.out]; simp⟩]; rfl, rfl⟩
      have d2 : ((nm[k].toNat : Int) == 127) = false := by rw [beq_eq_false_iff_ne]; omega
      by_cases c3 : nm[k].toNat = 47
      · have HF : Hid (okC nm[k] = false) := by show _ = _; unfold okC; rw [decide_eq_true c3]; simp
        have d3 : ((nm[k].toNat : Int) == 47) = true := by rw [beq_iff_eq]; omega
        clear c1 c2 c3
        go_wp2
        go_ret
        exact ⟨by rw [HN.out, List.all_eq_false.2 ⟨_, HM.out, by rw [HF.out]; simp⟩]; rfl, rfl⟩
      have d3 : ((nm[k].toNat : Int) == 47) = false := by rw [beq_eq_false_iff_ne]; omega
      have HF : Hid (okC nm[k] = true) := by show _ = _; unfold okC; rw [decide_eq_false c1, decide_eq_false c2, decide_eq_false c3]; rfl
      clear c1 c2 c3
      go_wp2
      go_roundw
      case rel => exact ⟨k + 1, hlt, by go_num, by show _ = _; rw [HT.out, HA.out, HF.out]; rfl, trivial⟩
      case measure => simp [intOf]; omega
    · obtain rfl : k = nm.size := by omega
      have HA2 : Hid (nm.toList.all okC = true) := by have := HA.out; rw [← ba_len, List.take_length] at this; exact this
      go_wp2
      go_ret
      exact ⟨by rw [HN.out, HA2.out]; rfl, rfl⟩
end Go.Proofs.YtaklbofbhanjgaaDoor
