import Derived.Test.YtjnmfedefmemnaaRefuse
import Derived.Test.YtjnmfedefmemnaaDbl
namespace Go.Proofs.Ytjnmfedefmemnaa
open Go.RowKit
set_option maxRecDepth 100000

/-- What Drop leaves of the paths' block, of the bag and of the blocks. -/
def DroppedAt (w' : World) (g b d : Nat) (c : List Value) (v : Value) (qs : List Nat) (gone : Int) : Prop :=
  ∃ v', Row w' g ((c.set (b + 14 + d) v').set (b + 10 + d) (.int .u64 gone)) 67 ∧ BagAt w' v' qs ∧ blk v' = blk v
set_option maxHeartbeats 2000000 in
theorem drop1_any {w : World} {g b d j q db kb : Nat} {c : List Value} {v : Value} {qs : List Nat} {T : Int} (R : Row w g c 67) (hd : d < 2) (hv : c[b + 14 + d]? = some v) (hT : c[b + 10 + d]? = some (.int .u64 T)) (hB : BagAt w v qs) (hl : qs.length ≤ 1073741824) (hj : j < qs.length)
    (hdb : Row w db [.int .i64 d] 3) (hkb : Row w kb [.int .i64 j] 3) :
    Calls Try.prog 38 #[.pointer (some ⟨g, b, none⟩), .pointer (some ⟨q, 0, none⟩), .pointer (some ⟨db, 0, none⟩), .pointer (some ⟨kb, 0, none⟩)] w fun e w' => e = .returned (.int .i64 0) ∧ Only (g :: blk v) w w' ∧ DroppedAt w' g b d c v (qs.eraseIdx j) (IntKind.u64.wrap (T + 1)) := by
  have HR := hid R
  have HV := hid hv
  have HTT := hid hT
  have HBG := hid hB
  have HDB := hid hdb
  have HL := hid hl
  have HJ := hid hj
  have k1 : (0 : Int) ≤ (d : Int) := by omega
  have k2 : (d : Int) < 2 := by omega
  have d1 := hdb.cell 0 _ rfl
  have d2 := hkb.cell 0 _ rfl
  clear R hv hT hB hdb hkb hl hj
  go_enter Try.func38, Try.ntmps38
  go_upto_region 2 with (go_at_call 33; refine (cut_any HR.out (by omega) HV.out HBG.out HL.out HJ.out).mono ?_; rintro e w3 ⟨rfl, v', hr, hbag, ho, hx⟩; have HR3 := hid hr; have HBG3 := hid hbag; have HX3 := hid ho; have HV3 := hid hx; clear hr hbag ho hx)
  have HD3 := hid (HX3.out.row HDB.out (far_of HDB.out (by decide) (by decide) HR.out HBG.out))
  clear d1 d2
  have d1 := HD3.out.cell 0 _ rfl
  have t1 := HR3.out.cell _ _ (set_at HTT.out (by omega))
  have t2 := HR3.out.frozen (b + 10 + d)
  refine wp_region_still_tail 12 (by kernel_rfl) (by kernel_rfl) ?_
  replace d1 := cell_drawn (w3.drawn + 1) d1
  replace t1 := cell_drawn (w3.drawn + 1) t1
  replace t2 := frozen_drawn (w3.drawn + 1) t2
  replace HR3 : Hid _ := HR3.out.drawn (w3.drawn + 1)
  replace HX3 : Hid _ := HX3.out.drawn (w3.drawn + 1)
  replace HBG3 : Hid _ := hid (HBG3.out.kept (below_drawn (Below.refl w3.heap.size w3) (w3.drawn + 1)))
  generalize ({ w3 with drawn := w3.drawn + 1 } : World) = wq at *
  simp only [List.take_succ_cons, List.take_zero, List.drop_succ_cons, List.drop_zero]
  iterate 12 still_step
  refine wpStill_nil ?_
  go_wp2
  go_ret
  refine ⟨rfl, HX3.out.setCell g _ _ (.inl (by simp)), v', HR3.out.set _ _, ?_, HV3.out⟩
  exact HBG3.out.only ((Only.refl [g] wq).setCell g _ _ (.inl (by simp))) (fun x hx => by
    obtain ⟨c', R'⟩ := HBG3.out.blkRow x hx
    simpa using R'.ne HR3.out (by decide))
set_option maxHeartbeats 2000000 in
theorem find_drop {w : World} {p n g k d j db kb : Nat} {c : List Value} {v : Value} {qs : List Nat} {T : Int}
    (HN : Row w p [.slice (some ⟨g, 0, none⟩) n n] 52) (R : Row w g c 67) (hk : k < n) (hd : d < 2) (hv : c[k * 16 + 14 + d]? = some v) (hT : c[k * 16 + 10 + d]? = some (.int .u64 T)) (hB : BagAt w v qs) (hl : qs.length ≤ 1073741824) (hj : j < qs.length)
    (hdb : Row w db [.int .i64 d] 3) (hkb : Row w kb [.int .i64 j] 3) :
    Calls Try.prog 27 #[.pointer (some ⟨p, 0, none⟩), .int .i64 k, .int .i64 d, .int .i64 j, .bool false, .func (.func 38) #[] #[.pointer (some ⟨db, 0, none⟩), .pointer (some ⟨kb, 0, none⟩)]] w fun e w' => e = .returned (.int .i64 0) ∧ Only (g :: blk v) w w' ∧ DroppedAt w' g (k * 16) d c v (qs.eraseIdx j) (IntKind.u64.wrap (T + 1)) := by
  have HBI := hid (bag_in (HN.cell 0 _ rfl) hk hd)
  have HP := hid (drop1_any (q := qs[j]) R hd hv hT hB hl hj hdb hkb)
  have c1 := R.cell _ _ hv
  obtain ⟨gb, o, cap, rfl, c2⟩ := hB.cell j hj
  have k1 : (0 : Int) ≤ (d : Int) := by omega
  have k2 : (d : Int) < 2 := by omega
  have j1 : decide ((j : Int) < 0) = false := by simp
  have j2 : decide ((qs.length : Int) ≤ (j : Int)) = false := by simp; omega
  have j3 : decide ((j : Int) ≥ (qs.length : Int)) = false := by simp; omega
  have j4 : (j : Int) < (qs.length : Int) := by omega
  unfold ptr at c2
  clear R hv hT hB hl hdb hkb HN hk
  generalize qs[j] = q at *
  go_enter Try.func27, Try.ntmps27
  go_wp2_with (first
    | (go_at_call 23; refine Calls.mono HBI.out ?_; rintro e w' ⟨rfl, rfl⟩)
    | (go_at_call 38; refine Calls.mono HP.out ?_; rintro e w1 ⟨rfl, hh⟩; have HH := hid hh; clear hh))
  go_ret
  exact ⟨rfl, HH.out⟩
set_option maxHeartbeats 2000000 in
/-- Drop of the frame at a place. -/
theorem drop_in {w : World} {p n g k d j : Nat} {c : List Value} {v : Value} {qs : List Nat} {T : Int}
    (HN : Row w p [.slice (some ⟨g, 0, none⟩) n n] 52) (R : Row w g c 67) (hk : k < n) (hd : d < 2) (hv : c[k * 16 + 14 + d]? = some v) (hT : c[k * 16 + 10 + d]? = some (.int .u64 T)) (hB : BagAt w v qs) (hl : qs.length ≤ 1073741824) (hj : j < qs.length) :
    Calls Try.prog 20 #[.pointer (some ⟨p, 0, none⟩), .int .i64 k, .int .i64 d, .int .i64 j] w fun e w' => e = .returned (.int .i64 0) ∧ Only (g :: blk v) w w' ∧ DroppedAt w' g (k * 16) d c v (qs.eraseIdx j) (IntKind.u64.wrap (T + 1)) := by
  have hb := below_grow (below_grow (Below.refl w.heap.size w) (.cells #[.int .i64 d] 3)) (.cells #[.int .i64 j] 3)
  have r1 : Row ((w.alloc (.cells #[.int .i64 d] 3)).alloc (.cells #[.int .i64 j] 3)) w.heap.size [.int .i64 d] 3 := (Row.new' _ _ _ _ _ rfl rfl).alloc _
  have r2 : Row ((w.alloc (.cells #[.int .i64 d] 3)).alloc (.cells #[.int .i64 j] 3)) (w.heap.size + 1) [.int .i64 j] 3 := Row.new' _ _ _ _ _ (by simp) rfl
  have HF := hid (find_drop (HN.kept hb HN.lt) (R.kept hb R.lt) hk hd hv hT (hB.kept hb) hl hj r1 r2)
  have HB := hid hb
  clear HN R hk hv hT hB hl hb r1 r2
  go_enter Try.func20, Try.ntmps20
  go_wp2_with (go_at_call 27; refine Calls.mono HF.out ?_; rintro e w1 ⟨rfl, h2, h3⟩; have H2 := hid h2; have H3 := hid h3; clear h2 h3)
  go_ret
  exact ⟨rfl, (Only.of_below (S := g :: blk v) HB.out (Nat.le_refl _)).trans H2.out (fun x hx => .inl hx), H3.out⟩
end Go.Proofs.Ytjnmfedefmemnaa
