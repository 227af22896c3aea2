import Derived.Test.YtkhogbnoincbeabLay
namespace Go.Proofs.Ytkhogbnoincbeab
open Go.RowKit Go.Maps Go.Sort
set_option maxRecDepth 100000

theorem faultI_zero {k s n c h : Int} {L : Nat} (e : faultI k s n c h L = 0) : Known k ∧ ¬ Big s n ∧ L ≤ 16384 ∧ Bnd k s c h L ∧ Bare k s n c h L := by
  unfold faultI at e
  split at e
  · omega
  · rename_i h1
    split at e
    · omega
    · rename_i h2
      split at e
      · omega
      · rename_i h3
        split at e
        · omega
        · rename_i h4
          simp at h1 h4
          exact ⟨h1, h2, by omega, h4.1, h4.2⟩
theorem lay_fit (w : World) (k s n c h : Int) (a : Option Addr) (bs : List (BitVec 8)) (L cap : Nat) (hB : BytesAt w a bs) (hL : bs.length = L) (hz : a = none → cap = 0) (hs0 : 0 ≤ s) (hn0 : 0 ≤ n) (hf : faultI k s n c h L = 0) :
    Calls Try.prog 31 #[.agg #[.int .i64 k, .int .u64 s, .int .u64 n, .int .i64 c, .int .i64 h, .slice a L cap]] w fun e w' => ∃ v, e = .returned v ∧ OwnBy w' w.heap.size v (encB k s n c h bs) ∧ Below w.heap.size w w' := by
  obtain ⟨⟨k0, k1⟩, hb, hl, hbn, hba⟩ := faultI_zero hf
  unfold Big at hb
  by_cases e1 : k = 1
  · have := hbn.1 e1
    unfold Cls Shr at this
    exact lay_open w k s n c h a bs L cap hB hL hz k0 k1 hs0 (by omega) hn0 (by omega) hl e1 (by omega) (by omega) (by omega) (by omega)
  by_cases e2 : k = 2
  · exact lay_bytes w k s n c h a bs L cap hB hL hz k0 k1 hs0 (by omega) hn0 (by omega) hl e2
  by_cases e4 : k = 4
  · exact lay_end w k s n c h a bs L cap hB hL hz k0 k1 hs0 (by omega) hn0 (by omega) hl e4
  by_cases e7 : HasS k
  · exact lay_both w k s n c h a bs L cap hB hL hz k0 k1 hs0 (by omega) hn0 (by omega) hl e7 ⟨e1, e2, e4⟩
  · exact lay_ping w k s n c h a bs L cap hB hL hz k0 k1 hs0 (by omega) hn0 (by omega) hl e7 ⟨e1, e2, e4⟩
/-- What Encode gives. -/
def encO (k s n c h : Int) (bs : List (BitVec 8)) : List (BitVec 8) := if faultI k s n c h bs.length = 0 then encB k s n c h bs else []
theorem own_nil (w : World) (base : Nat) : OwnBy w base (.slice none 0 0) [] := ⟨rfl, .inl ⟨rfl, rfl⟩⟩
def EncAns (w : World) (k s n c h : Int) (bs : List (BitVec 8)) (e : Ending) (w' : World) : Prop := ∃ v, e = .returned (.tuple #[v, .int .i64 (faultI k s n c h bs.length)]) ∧ OwnBy w' w.heap.size v (encO k s n c h bs) ∧ Below w.heap.size w w'
theorem EncAns.no {w w' : World} {k s n c h : Int} {bs : List (BitVec 8)} {x : Int} (e : faultI k s n c h bs.length = x) (hx : ¬ x = 0) (hb : Below w.heap.size w w') : EncAns w k s n c h bs (.returned (.tuple #[.slice none 0 0, .int .i64 x])) w' := by
  refine ⟨.slice none 0 0, by rw [e], ?_, hb⟩
  unfold encO
  rw [e, if_neg hx]
  exact own_nil _ _
theorem EncAns.yes {w w' : World} {k s n c h : Int} {bs : List (BitVec 8)} {v : Value} {B : Nat} (e : faultI k s n c h bs.length = 0) (ho : OwnBy w' B v (encB k s n c h bs)) (hB : w.heap.size ≤ B) (hb : Below w.heap.size w w') : EncAns w k s n c h bs (.returned (.tuple #[v, .int .i64 0])) w' := by
  refine ⟨v, by rw [e], ?_, hb⟩
  unfold encO
  rw [if_pos e]
  exact own_less ho hB
set_option maxHeartbeats 1000000 in
theorem encode_any (w : World) (k s n c h : Int) (a : Option Addr) (bs : List (BitVec 8)) (L cap : Nat) (hB : BytesAt w a bs) (hL : bs.length = L) (hz : a = none → cap = 0) (hs0 : 0 ≤ s) (hn0 : 0 ≤ n) :
    Calls Try.prog 21 #[.agg #[.int .i64 k, .int .u64 s, .int .u64 n, .int .i64 c, .int .i64 h, .slice a L cap]] w (EncAns w k s n c h bs) := by
  have HF := hid (fun w => fault_any w k s n c h a L cap)
  have HX := hid (below_new w (.cells #[.int .i64 k, .int .u64 s, .int .u64 n, .int .i64 c, .int .i64 h, .slice a L cap] 41))
  have HQ := hid (fat_new w k s n c h (.slice a L cap))
  by_cases hf : faultI k s n c h L = 0
  · have HL : Hid (∀ W, Below w.heap.size w W → Calls Try.prog 31 #[.agg #[.int .i64 k, .int .u64 s, .int .u64 n, .int .i64 c, .int .i64 h, .slice a L cap]] W fun e w' => ∃ v, e = .returned v ∧ OwnBy w' W.heap.size v (encB k s n c h bs) ∧ Below W.heap.size W w') := fun W hb => lay_fit W k s n c h a bs L cap (hB.kept hb) hL hz hs0 hn0 hf
    have HLE := hid hL
    have HFF := hid hf
    rw [hf] at HF
    clear hB hL hz hf
    go_enter Try.func21, Try.ntmps21
    go_wp2_with (first | (go_at_call 30; refine (HF.out _).mono ?_; rintro e w1 ⟨rfl, hb1⟩; have HB1 := hid (HX.out.trans (hb1.mono HX.out.size)); obtain ⟨a0, a1, a2, a3, a4, a5⟩ := HQ.out.kept hb1; clear hb1) | (go_at_call 31; refine (HL.out _ HB1.out).mono ?_; rintro e w2 ⟨v, rfl, ho, hb2⟩; have HB2 := hid (HB1.out.trans (hb2.mono HB1.out.size)); have HO := hid ho; clear hb2 ho))
    go_ret2
    exact EncAns.yes (by rw [HLE.out]; exact HFF.out) HO.out HB1.out.size HB2.out
  · have HLE := hid hL
    clear hB hL hz
    generalize hx : faultI k s n c h L = x at *
    have HXX := hid hx
    clear hx
    have hne : (x == 0) = false := by simpa using hf
    go_enter Try.func21, Try.ntmps21
    go_wp2_with (go_at_call 30; refine (HF.out _).mono ?_; rintro e w1 ⟨rfl, hb1⟩; have HB1 := hid (HX.out.trans (hb1.mono HX.out.size)); clear hb1)
    go_ret2
    exact EncAns.no (by rw [HLE.out]; exact HXX.out) hf HB1.out
theorem fit_any (w : World) (k s n c h : Int) (a : Option Addr) (L cap : Nat) :
    Calls Try.prog 20 #[.agg #[.int .i64 k, .int .u64 s, .int .u64 n, .int .i64 c, .int .i64 h, .slice a L cap]] w fun e w' => e = .returned (.bool (decide (faultI k s n c h L = 0))) ∧ Below w.heap.size w w' := by
  have HF := hid (fun w => fault_any w k s n c h a L cap)
  have HX := hid (below_new w (.cells #[.int .i64 k, .int .u64 s, .int .u64 n, .int .i64 c, .int .i64 h, .slice a L cap] 41))
  generalize faultI k s n c h L = x at *
  go_enter Try.func20, Try.ntmps20
  go_wp2_with (go_at_call 30; refine (HF.out _).mono ?_; rintro e w1 ⟨rfl, hb1⟩; have HB1 := hid (HX.out.trans (hb1.mono HX.out.size)); clear hb1)
  go_ret
  exact ⟨ret_b (by simp), HB1.out⟩
end Go.Proofs.Ytkhogbnoincbeab
