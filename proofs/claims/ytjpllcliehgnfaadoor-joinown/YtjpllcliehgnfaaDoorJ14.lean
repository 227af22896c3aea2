import Derived.Test.YtjpllcliehgnfaaDoorJ13
import Derived.Laws.BytesString
namespace Go.Proofs.YtjpllcliehgnfaaDoor
open Go.RowKit
set_option maxRecDepth 100000

/-- Bytes as a string. -/
def toBA (bs : List (BitVec 8)) : ByteArray := (bs.map ub).foldl (fun r n => r.push (UInt8.ofNat n.toNat)) ByteArray.empty
theorem push_list (l : List (BitVec 8)) (s : ByteArray) : ((l.map ub).foldl (fun r n => r.push (UInt8.ofNat n.toNat)) s).data.toList = s.data.toList ++ l.map (fun b => UInt8.ofNat b.toNat) := by
  induction l generalizing s with
  | nil => simp
  | cons b l ih =>
    rw [List.map_cons, List.foldl_cons, ih]
    simp [ByteArray.push, ub]
theorem toBA_list (l : List (BitVec 8)) : (toBA l).data.toList = l.map (fun b => UInt8.ofNat b.toNat) := by
  unfold toBA; rw [push_list]; rfl
theorem u8_inj {x y : BitVec 8} (h : UInt8.ofNat x.toNat = UInt8.ofNat y.toNat) : x = y := by
  have h2 := congrArg UInt8.toNat h
  have hx := x.isLt
  have hy := y.isLt
  simp only [UInt8.toNat_ofNat'] at h2
  exact BitVec.eq_of_toNat_eq (by omega)
theorem toBA_inj {x y : List (BitVec 8)} (h : toBA x = toBA y) : x = y := by
  have h2 := congrArg (fun s : ByteArray => s.data.toList) h
  simp only [toBA_list] at h2
  exact (List.map_inj_right (fun _ _ => u8_inj)).1 h2
theorem toBA_eq (x y : List (BitVec 8)) : (toBA x = toBA y) = (x = y) := propext ⟨toBA_inj, fun h => by rw [h]⟩

theorem conv_bytes {w : World} {a : Option Addr} {n c : Nat} {bs : List (BitVec 8)} (hB : BytesAt w a bs) (hn : bs.length = n) : (convert 25 9 (.slice a n c)).run Tryd.prog w = .ok (.string (toBA bs)) w := by
  rw [run_convert_bytes_string w 25 9 5 a n c Tryd.underlying25 Tryd.underlying5 Tryd.underlying9]
  subst hn
  cases a with
  | none =>
    cases bs with
    | nil => rfl
    | cons b bs => obtain ⟨_, _, e, _⟩ := hB 0 (by simp); cases e
  | some ad =>
    refine run_bytesToString w ad bs.length c (bs.map ub) ?_
    have := run_loadCells_list (P := Tryd.prog) w ad (bcells bs) (fun j v hv => by
      have hj : j < bs.length := by have := (List.getElem?_eq_some_iff.1 hv).1; rwa [bcells_len] at this
      obtain ⟨g2, o2, e2, c2⟩ := hB j hj
      cases e2
      rw [bcells_get hj] at hv
      rw [Addr.add_mid, c2]
      exact hv)
    rw [bcells_len] at this
    rw [this]
    simp [bcells, bv, Function.comp_def]

theorem ba_eq (x y : List (BitVec 8)) : ((toBA x).toList == (toBA y).toList) = decide (x = y) := by
  rw [Bool.eq_iff_iff, beq_iff_eq, decide_eq_true_eq, ByteArray.toList_eq, ByteArray.toList_eq, toBA_list, toBA_list]
  exact List.map_inj_right (fun _ _ => u8_inj)
set_option maxHeartbeats 400000 in
theorem sameB_any {w : World} {a b : Option Addr} {n m c d : Nat} {x y : List (BitVec 8)} (hx : BytesAt w a x) (hn : x.length = n) (hy : BytesAt w b y) (hm : y.length = m) :
    Calls Tryd.prog 30 #[.slice a n c, .slice b m d] w fun e w' => e = .returned (.bool (decide (x = y))) ∧ w' = w := by
  have h1 := conv_bytes (c := c) hx hn
  have h2 := conv_bytes (c := d) hy hm
  have HE : Hid _ := ba_eq x y
  clear hx hy hn hm
  rw [← HE.out]
  clear HE
  generalize toBA x = sx at *
  generalize toBA y = sy at *
  go_enter Tryd.func30, Tryd.ntmps30
  go_wp2
  go_ret
  exact ⟨rfl, rfl⟩

set_option maxHeartbeats 400000 in
theorem sameR_nil (w : World) : Calls Tryd.prog 31 #[.slice none 0 0, .slice none 0 0] w fun e w' => e = .returned (.bool true) ∧ w' = w := by
  go_enter Tryd.func31, Tryd.ntmps31
  go_wp2
  go_loopw [13] (fun i wr => i = .int .i64 0 ∧ wr = w) (fun _ _ => 0)
  case atStart => exact ⟨rfl, rfl⟩
  case round =>
    obtain ⟨rfl, rfl⟩ := hrel
    go_wp2
    go_ret
    exact ⟨rfl, rfl⟩
theorem bytes_nil (w : World) : BytesAt w none [] := fun k hk => by simp at hk
set_option maxHeartbeats 1000000 in
/-- Same of two frames that say the same. -/
theorem same_eq {w : World} (k p : Int) (tk non : BitVec 32) (bk : Bool) {a b : Option Addr} {c d : Nat} {bs : List (BitVec 8)} (ha : BytesAt w a bs) (hb : BytesAt w b bs) :
    Calls Tryd.prog 12 #[frV k p tk non (.slice a bs.length c) bk, frV k p tk non (.slice b bs.length d) bk] w fun e w' => e = .returned (.bool true) ∧ Below w.heap.size w w' := by
  have HD : Hid (∀ W, Calls Tryd.prog 30 #[.slice none 0 0, .slice none 0 0] W fun e w' => e = .returned (.bool true) ∧ w' = W) := fun W => by
    have := sameB_any (c := 0) (d := 0) (bytes_nil W) rfl (bytes_nil W) rfl
    rw [decide_eq_true rfl] at this; exact this
  have HM : Hid (∀ W, Below w.heap.size w W → Calls Tryd.prog 30 #[.slice a bs.length c, .slice b bs.length d] W fun e w' => e = .returned (.bool true) ∧ w' = W) := fun W hq => by
    have := sameB_any (c := c) (d := d) (ha.kept hq) rfl (hb.kept hq) rfl
    rw [decide_eq_true rfl] at this; exact this
  clear ha hb
  unfold frV frC
  go_enter Tryd.func12, Tryd.ntmps12
  go_upto_region 1 with (fail)
  refine wp_world fun W0 HW => ?_
  have HQ0 : Hid (Row W0 w.heap.size (frC k p tk non (.slice a bs.length c) bk) 29) := by show Row _ _ _ _; rw [HW.out]; exact (Row.new' _ _ _ _ _ rfl rfl).alloc _
  have HP0 : Hid (Row W0 (w.heap.size + 1) (frC k p tk non (.slice b bs.length d) bk) 29) := by show Row _ _ _ _; rw [HW.out]; exact Row.new' _ _ _ _ _ (by simp) rfl
  have HB0 : Hid (Below w.heap.size w W0) := by show Below _ _ _; rw [HW.out]; exact ((Below.refl _ _).alloc (Nat.le_refl _) _).alloc (by simp) _
  clear HW
  have c0 := HQ0.out.cell 0 _ rfl
  have d0 := HP0.out.cell 0 _ rfl
  have c1 := HQ0.out.cell 1 _ rfl
  have d1 := HP0.out.cell 1 _ rfl
  have c2 := HQ0.out.cell 2 _ rfl
  have d2 := HP0.out.cell 2 _ rfl
  have c3 := HQ0.out.cell 3 _ rfl
  have d3 := HP0.out.cell 3 _ rfl
  have c4 := HQ0.out.cell 4 _ rfl
  have d4 := HP0.out.cell 4 _ rfl
  have c5 := HQ0.out.cell 5 _ rfl
  have d5 := HP0.out.cell 5 _ rfl
  have c6 := HQ0.out.cell 6 _ rfl
  have d6 := HP0.out.cell 6 _ rfl
  have c7 := HQ0.out.cell 7 _ rfl
  have d7 := HP0.out.cell 7 _ rfl
  have c8 := HQ0.out.cell 8 _ rfl
  have d8 := HP0.out.cell 8 _ rfl
  have c9 := HQ0.out.cell 9 _ rfl
  have d9 := HP0.out.cell 9 _ rfl
  have c10 := HQ0.out.cell 10 _ rfl
  have d10 := HP0.out.cell 10 _ rfl
  have c11 := HQ0.out.cell 11 _ rfl
  have d11 := HP0.out.cell 11 _ rfl
  clear HQ0 HP0
  go_upto_region 3 with (fail)
  obtain ⟨lm, hlm⟩ : ∃ x, x = bs.length := ⟨_, rfl⟩
  rw [← hlm] at c9 d9 HM
  clear hlm c0 c1 c2 c3 c4 c7 c8 c10 c11 d0 d1 d2 d3 d4 d7 d8 d10 d11
  go_wp2_with (first
    | (go_at_call_of 30 (Value.slice none 0 0); refine Calls.mono (HD.out _) ?_; rintro e w' ⟨rfl, rfl⟩)
    | (go_at_call 30; refine Calls.mono (HM.out _ HB0.out) ?_; rintro e w' ⟨rfl, rfl⟩)
    | (go_at_call 31; refine (sameR_nil _).mono ?_; rintro e w' ⟨rfl, rfl⟩))
  go_ret
  exact ⟨rfl, HB0.out⟩
end Go.Proofs.YtjpllcliehgnfaaDoor
