import Derived.Test.YtkhogbnoincbeabRdr4
import Derived.Test.YtkhogbnoincbeabPu6
import Derived.Deep.RegionHeld3
import Derived.Deep.CutRange
namespace Go.Proofs.Ytkhogbnoincbeab
open Go.RowKit Go.Maps Go.Sort
set_option maxRecDepth 100000

/-- What take gives as a frame, and how many bytes it had. -/
def takeG (L : List (BitVec 8)) : PF := if (allA PF.zero L).1 = 0 then (allA PF.zero L).2.1 else PF.zero
def takeN (L : List (BitVec 8)) : Nat := if (allA PF.zero L).1 = 0 then L.length - (allA PF.zero L).2.2.length else 0
theorem take_all {w : World} {p : Nat} {v0 v : Value} {l : List (BitVec 8)} (H : Sc w p v0 0 0 0 0 0 (.slice none 0 0)) (hl : Lf w p v l) :
    Calls Try.prog 25 #[.pointer (some ⟨p, 0, none⟩), v] w fun e w' => ∃ a9 n9 c9, e = .returned (.tuple #[.agg #[.int .i64 (takeG l).k, .int .u64 (takeG l).s, .int .u64 (takeG l).n, .int .i64 (takeG l).c, .int .i64 (takeG l).h, .slice a9 n9 c9], .int .i64 ((takeN l : Nat) : Int), .int .i64 (allA PF.zero l).1]) ∧
      Sc w' p (.slice none 0 0) 0 0 0 0 0 (.slice none 0 0) ∧ Fr (fun x => x = p) w w' ∧ Dt w' w.heap.size (.slice a9 n9 c9) (takeG l).bs := by
  refine (take_any H hl).mono ?_
  rintro e w' ⟨h1, h2, ⟨h3, rfl⟩ | ⟨h3, d, rfl, h4⟩⟩
  · refine ⟨none, 0, 0, ?_, h1, h2, ?_⟩
    · unfold takeG takeN
      rw [if_neg h3, if_neg h3]
      rfl
    · unfold takeG
      rw [if_neg h3]
      exact .inl ⟨rfl, rfl⟩
  · have hd3 : ∃ a9 n9 c9, d = .slice a9 n9 c9 := by
      rcases h4 with ⟨rfl, e⟩ | ⟨g, rfl, _⟩
      · exact ⟨none, 0, 0, rfl⟩
      · exact ⟨_, _, _, rfl⟩
    obtain ⟨a9, n9, c9, rfl⟩ := hd3
    have hp := A_pos h3
    refine ⟨a9, n9, c9, ?_, h1, h2, ?_⟩
    · unfold takeG takeN
      rw [if_pos h3, if_pos h3, h3, Int.ofNat_sub (Nat.le_of_lt hp)]
    · unfold takeG
      rw [if_pos h3]
      exact h4
theorem take_rest {L : List (BitVec 8)} (h : (allA PF.zero L).1 = 0) : (allA PF.zero L).2.2 = L.drop (takeN L) ∧ 0 < takeN L ∧ takeN L ≤ L.length := by
  have hp := A_pos h
  obtain ⟨_, _, _, hb, _⟩ := dec_one (b := L) (F := (allA PF.zero L).2.1) (m := (allA PF.zero L).2.2) (by rw [← h])
  unfold takeN
  rw [if_pos h]
  refine ⟨?_, by omega, by omega⟩
  generalize (allA PF.zero L).2.2 = m at *
  generalize encB _ _ _ _ _ _ = e at *
  subst hb
  rw [List.length_append, Nat.add_sub_cancel, List.drop_left]
/-- A frame's bytes are given. -/
theorem give_any {B : Nat} {w : World} {q p : Nat} {v : Value} {all : List (BitVec 8)} {left : Nat} {at_ : Int} (H : Rdr B w q p v all left at_ 0) {n : Nat} (hn : n ≤ left) (h0 : 0 < n) (ha : 0 ≤ at_ ∧ at_ + n < 18446744073709551616) (hl : all.length ≤ 140737488355328) :
    Calls Try.prog 26 #[.pointer (some ⟨q, 0, none⟩), .int .i64 (n : Int)] w fun e w' => e = .returned (.tuple #[]) ∧ ∃ v' all', v'.ownBlock = v.ownBlock ∧ Rdr B w' q p v' all' (left - n) (at_ + n) 0 ∧ all'.drop (all'.length - (left - n)) = all.drop (all.length - (left - n)) ∧ all'.length ≤ all.length ∧ Fr (fun x => x = q ∨ v.ownBlock = some x) w w' := by
  by_cases hm : all.length - (left - n) < left - n
  · refine (give_no H hn hm ha hl).mono ?_
    rintro e w' ⟨rfl, h1, h2⟩
    exact ⟨rfl, v, all, rfl, h1, rfl, Nat.le_refl _, h2.wider (fun x e => .inl e)⟩
  · refine (give_yes H hn h0 (by omega) ha hl).mono ?_
    rintro e w' ⟨rfl, v', h1, h2, h3⟩
    have hle := H.le
    refine ⟨rfl, v', _, h1, h2, ?_, by rw [List.length_drop]; omega, h3⟩
    rw [List.length_drop, show all.length - (all.length - (left - n)) - (left - n) = 0 by omega, List.drop_zero]
end Go.Proofs.Ytkhogbnoincbeab
