import Derived.Test.YtjnmfedefmemnaaCut
namespace Go.Proofs.Ytjnmfedefmemnaa
open Go.RowKit
set_option maxRecDepth 100000

set_option maxHeartbeats 1000000 in
theorem peek1_any {w : World} {q ob : Nat} {r : Value} {x y : Value} {bs : List (BitVec 8)} (h : PAt w q bs) (hm : bs.length ≤ 140737488355328) (ho : Row w ob [x, y] 32) :
    Calls Try.prog 30 #[r, .pointer (some ⟨q, 0, none⟩), .pointer (some ⟨ob, 0, none⟩)] w fun e w' => e = .returned (.int .i64 0) ∧ ∃ g', Row w' ob [.slice (some ⟨g', 0, none⟩) bs.length bs.length, .bool false] 32 ∧ w.heap.size ≤ g' ∧ Row w' g' (bcells bs) 5 ∧ Only [ob] w w' := by
  have HT := hid (tell_any h hm)
  have HO := hid ho
  clear h hm ho
  go_enter Try.func30, Try.ntmps30
  go_wp2_with (first
    | (go_at_call 31; refine Calls.mono HT.out ?_; rintro e w1 ⟨g, rfl, hg, hr, hb⟩; have HG := hid hg; have HR := hid hr; have HB := hid hb; clear hg hr hb)
    | (show wpList _ _ _ (Oper.mk none (.store 32 (.tmp 2) (.tmp 7)) _ _ _ _ :: _) _ _; refine (HO.out.kept HB.out HO.out.lt).wpStore' 32 (.tmp 2) (.tmp 7) [.slice (some ⟨g, 0, none⟩) bs.length bs.length, .bool false] rfl rfl rfl rfl rfl (by simp [Value.oneCell']) i32 ?_; intro wz HZ))
  go_ret
  have h1 : Row wz ob [.slice (some ⟨g, 0, none⟩) bs.length bs.length, .bool false] 32 := by rw [HZ.out]; exact (HO.out.kept HB.out HO.out.lt).row _
  have h2 : Row wz g (bcells bs) 5 := by rw [HZ.out]; exact HR.out.rowOther (HR.out.ne (HO.out.kept HB.out HO.out.lt) (by decide)) _
  have h3 : Only [ob] w wz := by rw [HZ.out]; exact (Only.of_below HB.out (Nat.le_refl _)).setRow ob _ (.inl (by simp))
  exact ⟨rfl, g, h1, HG.out, h2, h3⟩
set_option maxHeartbeats 2000000 in
theorem find_peek {w : World} {p n g k d j : Nat} {c : List Value} {v : Value} {qs : List Nat} {ob : Nat} {x y : Value} {bs : List (BitVec 8)}
    (HN : Row w p [.slice (some ⟨g, 0, none⟩) n n] 52) (R : Row w g c 67) (hk : k < n) (hd : d < 2) (hv : c[k * 16 + 14 + d]? = some v) (hB : BagAt w v qs) (hj : j < qs.length) (h : PAt w qs[j] bs) (hm : bs.length ≤ 140737488355328) (ho : Row w ob [x, y] 32) :
    Calls Try.prog 27 #[.pointer (some ⟨p, 0, none⟩), .int .i64 k, .int .i64 d, .int .i64 j, .bool false, .func (.func 30) #[] #[.pointer (some ⟨ob, 0, none⟩)]] w fun e w' => e = .returned (.int .i64 0) ∧ ∃ g', Row w' ob [.slice (some ⟨g', 0, none⟩) bs.length bs.length, .bool false] 32 ∧ w.heap.size ≤ g' ∧ Row w' g' (bcells bs) 5 ∧ Only [ob] w w' := by
  have HBI := hid (bag_in (HN.cell 0 _ rfl) hk hd)
  have HP := hid (peek1_any (r := .pointer (some ⟨g, k * 16, none⟩)) h hm ho)
  have c1 := R.cell _ _ hv
  obtain ⟨gb, o, cap, rfl, c2⟩ := hB.cell j hj
  have k1 : (0 : Int) ≤ (d : Int) := by omega
  have k2 : (d : Int) < 2 := by omega
  have j1 : decide ((j : Int) < 0) = false := by simp
  have j2 : decide ((qs.length : Int) ≤ (j : Int)) = false := by simp; omega
  have j3 : decide ((j : Int) ≥ (qs.length : Int)) = false := by simp; omega
  have j4 : (j : Int) < (qs.length : Int) := by omega
  unfold ptr at c2
  clear R hv hB h hm ho HN hk
  generalize qs[j] = q at *
  go_enter Try.func27, Try.ntmps27
  go_wp2_with (first
    | (go_at_call 23; refine Calls.mono HBI.out ?_; rintro e w' ⟨rfl, rfl⟩)
    | (go_at_call 30; refine Calls.mono HP.out ?_; rintro e w1 ⟨rfl, hh⟩; have HH := hid hh; clear hh))
  go_ret
  exact ⟨rfl, HH.out⟩
set_option maxHeartbeats 2000000 in
theorem peek_in {w : World} {p n g k d j : Nat} {c : List Value} {v : Value} {qs : List Nat} {bs : List (BitVec 8)}
    (HN : Row w p [.slice (some ⟨g, 0, none⟩) n n] 52) (R : Row w g c 67) (hk : k < n) (hd : d < 2) (hv : c[k * 16 + 14 + d]? = some v) (hB : BagAt w v qs) (hj : j < qs.length) (h : PAt w qs[j] bs) (hm : bs.length ≤ 140737488355328) :
    Calls Try.prog 12 #[.pointer (some ⟨p, 0, none⟩), .int .i64 k, .int .i64 d, .int .i64 j] w fun e w' => ∃ g', e = .returned (.tuple #[.agg #[.slice (some ⟨g', 0, none⟩) bs.length bs.length, .bool false], .int .i64 0]) ∧ w.heap.size ≤ g' ∧ Row w' g' (bcells bs) 5 ∧ Below w.heap.size w w' := by
  have hb := below_grow (below_grow (Below.refl w.heap.size w) (.cells #[.slice none 0 0, .bool false] 32)) (.cells #[.slice none 0 0, .bool false] 32)
  have r1 : Row ((w.alloc (.cells #[.slice none 0 0, .bool false] 32)).alloc (.cells #[.slice none 0 0, .bool false] 32)) w.heap.size [.slice none 0 0, .bool false] 32 := (Row.new' _ _ _ _ _ rfl rfl).alloc _
  have r2 : Row ((w.alloc (.cells #[.slice none 0 0, .bool false] 32)).alloc (.cells #[.slice none 0 0, .bool false] 32)) (w.heap.size + 1) [.slice none 0 0, .bool false] 32 := Row.new' _ _ _ _ _ (by simp) rfl
  have HF := hid (find_peek (HN.kept hb HN.lt) (R.kept hb R.lt) hk hd hv (hB.kept hb) hj (h.kept hb) hm r2)
  have HB := hid hb
  have HR1 := hid r1
  clear HN R hk hv hB h hm hb r1 r2
  generalize hn : bs.length = m at *
  have HM := hid hn
  clear hn
  go_enter Try.func12, Try.ntmps12
  go_upto_region 3 with (go_at_call 27; refine Calls.mono HF.out ?_; rintro e w1 ⟨rfl, g', hr, hg, hbb, ho⟩; have HR := hid hr; have HG := hid hg; have HBB := hid hbb; have HO := hid ho; clear hr hg hbb ho)
  have HRR := hid (HO.out.row HR1.out (by simp))
  have HBW : Hid (Below w.heap.size w w1) := HB.out.trans (HO.out.below HB.out.size (by simp))
  have HGG : Hid (w.heap.size ≤ g') := Nat.le_trans HB.out.size HG.out
  have c0 := HR.out.cell 0 _ rfl
  have c1 := HR.out.cell 1 _ rfl
  clear HR1 HF HB HG HO
  go_wp2_with (show wpList _ _ _ (Oper.mk none (.store 32 (.tmp 8) (.tmp 18)) _ _ _ _ :: _) _ _; refine HRR.out.wpStore' 32 (.tmp 8) (.tmp 18) [.slice (some ⟨g', 0, none⟩) m m, .bool false] rfl rfl rfl rfl rfl (by simp [Value.oneCell']) i32 ?_; intro wz HZ)
  have h1 : Row wz w.heap.size [.slice (some ⟨g', 0, none⟩) m m, .bool false] 32 := by rw [HZ.out]; exact HRR.out.row _
  have h2 : Row wz g' (bcells bs) 5 := by rw [HZ.out]; exact HBB.out.rowOther (HBB.out.ne HRR.out (by decide)) _
  have h3 : Below w.heap.size w wz := by rw [HZ.out]; exact below_setRow HBW.out (Nat.le_refl _) _
  exact bodyPost_ret (v := .tuple #[.agg #[.slice (some ⟨g', 0, none⟩) m m, .bool false], .int .i64 0]) (h1.result2 Try.results12 _ rfl rfl _ Try.underlying32 rfl i32) rfl ⟨g', rfl, HGG.out, h2, h3⟩
end Go.Proofs.Ytjnmfedefmemnaa
