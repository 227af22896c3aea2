import Derived.Test.YtjnmfedefmemnaaTake
import Derived.Laws.IdiomStrings
import Derived.Laws.Strings
namespace Go.Proofs.Ytjnmfedefmemnaa
open Go.RowKit
set_option maxRecDepth 100000

/-- Bytes as a string. -/
def strOf (bs : List (BitVec 8)) : ByteArray := ⟨(bs.map UInt8.ofBitVec).toArray⟩
theorem ofBits_inj : ∀ {a b : List (BitVec 8)}, a.map UInt8.ofBitVec = b.map UInt8.ofBitVec → a = b
  | [], [], _ => rfl
  | x :: a, y :: b, h => by
    simp only [List.map_cons, List.cons.injEq] at h
    have h1 : x = y := by injection h.1
    rw [h1, ofBits_inj h.2]
theorem strOf_list (a : List (BitVec 8)) : (strOf a).toList = a.map UInt8.ofBitVec := by rw [ByteArray.toList_eq]; simp [strOf]
theorem convert_any {w : World} {a : Option Addr} {n cap : Nat} {bs : List (BitVec 8)} (hB : BytesAt w a bs) (hn : bs.length = n) : (convert 22 9 (.slice a n cap)).run Try.prog w = .ok (.string (strOf bs)) w := by
  cases a with
  | some ad =>
    have h := run_convert_bytes_back (P := Try.prog) w 22 9 5 ad cap (bs.map UInt8.ofBitVec) Try.underlying22 Try.underlying5 Try.underlying9 (fun j hj => by
      have hj' : j < bs.length := by simpa using hj
      obtain ⟨g, o, e, c⟩ := hB j hj'
      cases e
      rw [Addr.add_mid, c]
      simp [ub])
    rw [List.length_map, hn] at h
    exact h
  | none =>
    have h0 : bs = [] := by
      cases bs with
      | nil => rfl
      | cons x l => obtain ⟨g, o, e, _⟩ := hB 0 (by simp); cases e
    subst h0
    subst hn
    rw [run_convert_bytes_string w 22 9 5 none _ cap Try.underlying22 Try.underlying5 Try.underlying9]
    rfl
set_option maxHeartbeats 1000000 in
theorem same_any {w : World} {a a' : Option Addr} {n n' cap cap' : Nat} {bs bs' : List (BitVec 8)} (hB : BytesAt w a bs) (hn : bs.length = n) (hB' : BytesAt w a' bs') (hn' : bs'.length = n') :
    Calls Try.prog 14 #[.slice a n cap, .slice a' n' cap'] w fun e w' => e = .returned (.bool (decide (bs = bs'))) ∧ w' = w := by
  have h1 := convert_any (cap := cap) hB hn
  have h2 := convert_any (cap := cap') hB' hn'
  clear hB hB'
  go_enter Try.func14, Try.ntmps14
  go_wp2
  go_ret
  refine ⟨?_, rfl⟩
  have he : ((strOf bs).toList = (strOf bs').toList) = (bs = bs') := by rw [strOf_list, strOf_list]; exact propext ⟨ofBits_inj, fun e => by rw [e]⟩
  by_cases h : bs = bs'
  · subst h; simp
  · simp [h, he]
end Go.Proofs.Ytjnmfedefmemnaa
