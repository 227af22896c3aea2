import Derived.Test.YthglaocdhkdffaaGreatDoorTn1
namespace Go.Proofs.YthglaocdhkdffaaGreatDoor
open Go.RowKit
set_option maxRecDepth 100000
theorem nt_on {w w1 w2 : World} {v : Value} {b : Nat} {c : List Value} (h : NoT w1 v ∧ Below w.heap.size w w1 ∧ Row w1 b c 24) (hb : Below w1.heap.size w1 w2) : NoT w2 v ∧ Below w.heap.size w w2 ∧ Row w2 b c 24 := ⟨h.1.kept hb, h.2.1.trans (hb.mono h.2.1.size), h.2.2.kept hb h.2.2.lt⟩
set_option maxHeartbeats 8000000 in
theorem nobody_law {w : World} (plain : Bool) (k sd : Value) (nm : ByteArray) (dat n cl sh : Value) : Calls Tryz.prog 3 #[.bool plain, .agg #[k, sd, .string nm, dat, n, cl, sh]] w fun e w' => e = .returned (.bool true) ∧ Below w.heap.size w w' := by
  cases plain with
  | false =>
    go_enter Tryz.func3, Tryz.ntmps3
    go_upto_region 4 with (fail)
    refine wp_world fun wa HW => ?_
    have HS : Hid (NoT wa (.pointer none) ∧ Below w.heap.size w wa ∧ Row wa w.heap.size [k, sd, .string nm, dat, n, cl, sh] 24) := by
      show _ ∧ _ ∧ _
      rw [HW.out]
      exact ⟨.inl rfl, below_new _ _, Row.new' _ _ _ _ _ rfl rfl⟩
    clear HW
    obtain ⟨b, hb⟩ : ∃ b, w.heap.size = b := ⟨_, rfl⟩
    rw [hb] at HS ⊢
    have HBB := hid hb
    clear hb
    have c2 := HS.out.2.2.cell 2 _ rfl
    have c3 := HS.out.2.2.cell 3 _ rfl
    have c4 := HS.out.2.2.cell 4 _ rfl
    have c5 := HS.out.2.2.cell 5 _ rfl
    have c6 := HS.out.2.2.cell 6 _ rfl
    have HS0 : Hid (NoT wa (.pointer none) ∧ Below w.heap.size w wa ∧ Row wa b [k, sd, .string nm, dat, n, cl, sh] 24) := by rw [HBB.out]; exact HS.out
    clear HS
    go_upto_region 5 with (go_at_call 4; refine Calls.mono (fetch_no HS0.out.1 nm _ _) ?_; rintro e w1 ⟨rfl, hb⟩; have HS1 := hid (nt_on HS0.out hb); clear hb c2 c3 c4 c5 c6)
    have c2 := HS1.out.2.2.cell 2 _ rfl
    have c3 := HS1.out.2.2.cell 3 _ rfl
    have c4 := HS1.out.2.2.cell 4 _ rfl
    go_wp2_with (first
      | (go_at_call 5; refine Calls.mono (data_no HS1.out.1 _) ?_; rintro e w2 ⟨rfl, rfl⟩)
      | (go_at_call 6; refine Calls.mono (offer_no HS1.out.1 _ _ _) ?_; rintro e w2 ⟨rfl, rfl⟩)
      | (go_at_call 7; refine Calls.mono (withdraw_no HS1.out.1 _) ?_; rintro e w2 ⟨rfl, rfl⟩)
      | (go_at_call 8; refine Calls.mono (cancel_no HS1.out.1 _) ?_; rintro e w2 ⟨rfl, rfl⟩)
      | (go_at_call 9; refine Calls.mono (again_no HS1.out.1 _) ?_; rintro e w2 ⟨rfl, rfl⟩)
      | (go_at_call 10; refine Calls.mono (sync_no HS1.out.1) ?_; rintro e w2 ⟨rfl, rfl⟩)
      | (go_at_call 11; refine Calls.mono (feed_no HS1.out.1 _) ?_; rintro e w2 ⟨rfl, rfl⟩)
      | (go_at_call 12; refine Calls.mono (out_no HS1.out.1 _) ?_; rintro e w2 ⟨rfl, rfl⟩)
      | (go_at_call 14; refine Calls.mono (stat_no HS1.out.1) ?_; rintro e w3 ⟨rfl, hb⟩; have HS3 := hid (nt_on HS1.out hb); clear hb)
      | (go_at_call 13; refine Calls.mono (sameStat_no _) ?_; rintro e w4 ⟨rfl, hb⟩; have HS4 := hid (nt_on HS3.out hb); clear hb))
    go_ret
    exact ⟨rfl, HS4.out.2.1⟩
  | true =>
    go_enter Tryz.func3, Tryz.ntmps3
    go_upto_region 4 with (fail)
    refine wp_world fun wa HW => ?_
    have HS : Hid (NoT wa (.pointer (some ⟨w.heap.size + 1, 0, none⟩)) ∧ Below w.heap.size w wa ∧ Row wa w.heap.size [k, sd, .string nm, dat, n, cl, sh] 24) := by
      show _ ∧ _ ∧ _
      rw [HW.out]
      refine ⟨.inr ⟨_, rfl, (Row.new' _ _ [.pointer none, .int .i64 0, .map none, .pointer none, .slice none 0 0, .slice none 0 0, .bool false] 32 _ (by simp) rfl).cell 0 _ rfl⟩, (below_new w _).trans ((below_new _ _).mono (below_new w _).size), (Row.new' w _ [k, sd, .string nm, dat, n, cl, sh] 24 _ rfl rfl).alloc _⟩
    clear HW
    obtain ⟨b, hb⟩ : ∃ b, w.heap.size = b := ⟨_, rfl⟩
    rw [hb] at HS ⊢
    have HBB := hid hb
    clear hb
    have c2 := HS.out.2.2.cell 2 _ rfl
    have c3 := HS.out.2.2.cell 3 _ rfl
    have c4 := HS.out.2.2.cell 4 _ rfl
    have c5 := HS.out.2.2.cell 5 _ rfl
    have c6 := HS.out.2.2.cell 6 _ rfl
    have HS0 : Hid (NoT wa (.pointer (some ⟨b + 1, 0, none⟩)) ∧ Below w.heap.size w wa ∧ Row wa b [k, sd, .string nm, dat, n, cl, sh] 24) := by rw [HBB.out]; exact HS.out
    clear HS
    go_upto_region 5 with (go_at_call 4; refine Calls.mono (fetch_no HS0.out.1 nm _ _) ?_; rintro e w1 ⟨rfl, hb⟩; have HS1 := hid (nt_on HS0.out hb); clear hb c2 c3 c4 c5 c6)
    have c2 := HS1.out.2.2.cell 2 _ rfl
    have c3 := HS1.out.2.2.cell 3 _ rfl
    have c4 := HS1.out.2.2.cell 4 _ rfl
    go_wp2_with (first
      | (go_at_call 5; refine Calls.mono (data_no HS1.out.1 _) ?_; rintro e w2 ⟨rfl, rfl⟩)
      | (go_at_call 6; refine Calls.mono (offer_no HS1.out.1 _ _ _) ?_; rintro e w2 ⟨rfl, rfl⟩)
      | (go_at_call 7; refine Calls.mono (withdraw_no HS1.out.1 _) ?_; rintro e w2 ⟨rfl, rfl⟩)
      | (go_at_call 8; refine Calls.mono (cancel_no HS1.out.1 _) ?_; rintro e w2 ⟨rfl, rfl⟩)
      | (go_at_call 9; refine Calls.mono (again_no HS1.out.1 _) ?_; rintro e w2 ⟨rfl, rfl⟩)
      | (go_at_call 10; refine Calls.mono (sync_no HS1.out.1) ?_; rintro e w2 ⟨rfl, rfl⟩)
      | (go_at_call 11; refine Calls.mono (feed_no HS1.out.1 _) ?_; rintro e w2 ⟨rfl, rfl⟩)
      | (go_at_call 12; refine Calls.mono (out_no HS1.out.1 _) ?_; rintro e w2 ⟨rfl, rfl⟩)
      | (go_at_call 14; refine Calls.mono (stat_no HS1.out.1) ?_; rintro e w3 ⟨rfl, hb⟩; have HS3 := hid (nt_on HS1.out hb); clear hb)
      | (go_at_call 13; refine Calls.mono (sameStat_no _) ?_; rintro e w4 ⟨rfl, hb⟩; have HS4 := hid (nt_on HS3.out hb); clear hb))
    go_ret
    exact ⟨rfl, HS4.out.2.1⟩
end Go.Proofs.YthglaocdhkdffaaGreatDoor
