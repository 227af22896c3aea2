import Derived.Test.YtjnmfedefmemnaaDblSp2
namespace Go.Proofs.Ytjnmfedefmemnaa
open Go.RowKit Go.Maps
set_option maxRecDepth 100000

set_option maxHeartbeats 2000000 in
theorem find_double_sp {w : World} {p n g k d j lb db gb m K : Nat} {c : List Value} {v mv : Value} {qs : List Nat} {C T : Int} {U : Nat → BitVec 8}
    (HN : Row w p [.slice (some ⟨g, 0, none⟩) n n] 52) (R : Row w g c 67) (hk : k < n) (hd : d < 2) (hup : c[k * 16]? = some (.bool true)) (hC : c[k * 16 + 1]? = some (.int .i64 C)) (hv : c[k * 16 + 14 + d]? = some v) (hT : c[k * 16 + 12 + d]? = some (.int .u64 T)) (hB : BagAt w v qs) (hlt : (qs.length : Int) < C) (hC30 : C ≤ 1073741824) (hj : j < qs.length)
    (h : Row w qs[j] [.slice (some ⟨gb, 0, none⟩) m m, mv] 84) (hU : TurnAt w mv m K U) (hdb : Row w db [.int .i64 d] 3) (hlb : Row w lb [.bool false] 4) :
    Calls Try.prog 27 #[.pointer (some ⟨p, 0, none⟩), .int .i64 k, .int .i64 d, .int .i64 j, .bool true, .func (.func 28) #[] #[.pointer (some ⟨db, 0, none⟩), .pointer (some ⟨lb, 0, none⟩)]] w fun e w' => e = .returned (.int .i64 0) ∧ Row w' lb [.bool true] 4 ∧ Only (lb :: g :: blk v) w w' ∧ DoubledSp w w' g (k * 16) d gb m K U c v qs (IntKind.u64.wrap (T + 1)) := by
  have HBI := hid (bag_in (HN.cell 0 _ rfl) hk hd)
  have HP := hid (double1_sp R hd hC hv hT hB hlt hC30 h hU hdb hlb)
  have c0 := R.cell _ _ hup
  have c1 := R.cell _ _ hv
  obtain ⟨gbb, o, cap, rfl, c2⟩ := hB.cell j hj
  have k1 : (0 : Int) ≤ (d : Int) := by omega
  have k2 : (d : Int) < 2 := by omega
  have j1 : decide ((j : Int) < 0) = false := by simp
  have j2 : decide ((qs.length : Int) ≤ (j : Int)) = false := by simp; omega
  have j3 : decide ((j : Int) ≥ (qs.length : Int)) = false := by simp; omega
  have j4 : (j : Int) < (qs.length : Int) := by omega
  unfold ptr at c2
  clear R hup hC hv hT hB hlt hC30 h hU hdb hlb HN hk
  generalize qs[j] = q at *
  go_enter Try.func27, Try.ntmps27
  go_wp2_with (first
    | (go_at_call 23; refine Calls.mono HBI.out ?_; rintro e w' ⟨rfl, rfl⟩)
    | (go_at_call 28; refine Calls.mono HP.out ?_; rintro e w1 ⟨rfl, h1, h6, h7⟩; have H1 := hid h1; have H6 := hid h6; have HD := hid h7; clear h1 h6 h7))
  go_ret
  exact ⟨rfl, H1.out, H6.out, HD.out⟩
set_option maxHeartbeats 2000000 in
theorem double_sp {w : World} {p n g k d j gb m K : Nat} {c : List Value} {v mv : Value} {qs : List Nat} {C T : Int} {U : Nat → BitVec 8}
    (HN : Row w p [.slice (some ⟨g, 0, none⟩) n n] 52) (R : Row w g c 67) (hk : k < n) (hd : d < 2) (hup : c[k * 16]? = some (.bool true)) (hC : c[k * 16 + 1]? = some (.int .i64 C)) (hv : c[k * 16 + 14 + d]? = some v) (hT : c[k * 16 + 12 + d]? = some (.int .u64 T)) (hB : BagAt w v qs) (hlt : (qs.length : Int) < C) (hC30 : C ≤ 1073741824) (hj : j < qs.length)
    (h : Row w qs[j] [.slice (some ⟨gb, 0, none⟩) m m, mv] 84) (hU : TurnAt w mv m K U) :
    Calls Try.prog 11 #[.pointer (some ⟨p, 0, none⟩), .int .i64 k, .int .i64 d, .int .i64 j] w fun e w' => e = .returned (.tuple #[.bool true, .int .i64 0]) ∧ Only (g :: blk v) w w' ∧ DoubledSp w w' g (k * 16) d gb m K U c v qs (IntKind.u64.wrap (T + 1)) := by
  have hb := below_grow (below_grow (Below.refl w.heap.size w) (.cells #[.int .i64 d] 3)) (.cells #[.bool false] 4)
  have r1 : Row ((w.alloc (.cells #[.int .i64 d] 3)).alloc (.cells #[.bool false] 4)) w.heap.size [.int .i64 d] 3 := (Row.new' _ _ _ _ _ rfl rfl).alloc _
  have r2 : Row ((w.alloc (.cells #[.int .i64 d] 3)).alloc (.cells #[.bool false] 4)) (w.heap.size + 1) [.bool false] 4 := Row.new' _ _ _ _ _ (by simp) rfl
  have HF := hid (find_double_sp (HN.kept hb HN.lt) (R.kept hb R.lt) hk hd hup hC hv hT (hB.kept hb) hlt hC30 hj (h.kept hb h.lt) (hU.kept hb) r1 r2)
  have HB := hid hb
  clear HN R hk hup hC hv hT hB hlt hC30 h hU hb r1 r2
  go_enter Try.func11, Try.ntmps11
  go_upto_region 3 with (go_at_call 27; refine Calls.mono HF.out ?_; rintro e w1 ⟨rfl, h1, h2, h3⟩; have H1 := hid h1; have H2 := hid h2; have H3 := hid h3; clear h1 h2 h3)
  have c0 := H1.out.cell 0 _ rfl
  have HX : Hid (Only (g :: blk v) w w1) := (Only.of_below (S := g :: blk v) HB.out (Nat.le_refl _)).trans H2.out (fun x hx => by
    rcases List.mem_cons.1 hx with rfl | hx
    · exact .inr (by omega)
    · exact .inl hx)
  clear HF H1 H2
  go_wp2
  go_ret2
  obtain ⟨v', q', mv', h2, h3, h4, h5, h6, h8, h7⟩ := H3.out
  refine ⟨rfl, HX.out, v', q', mv', h2, h3, Nat.le_trans HB.out.size h4, h5, h6, fun x hx => Nat.le_trans HB.out.size (h8 x hx), fun x hx => ?_⟩
  rcases h7 x hx with h | h
  · exact .inl h
  · exact .inr (Nat.le_trans HB.out.size h)
set_option maxHeartbeats 1000000 in
/-- A bag that is full: nothing is doubled. -/
theorem double1_full {w : World} {g b d q lb db : Nat} {c : List Value} {v : Value} {qs : List Nat} {C : Int} (R : Row w g c 67) (hd : d < 2) (hC : c[b + 1]? = some (.int .i64 C)) (hv : c[b + 14 + d]? = some v) (hB : BagAt w v qs) (hlt : C ≤ (qs.length : Int)) (hdb : Row w db [.int .i64 d] 3) :
    Calls Try.prog 28 #[.pointer (some ⟨g, b, none⟩), .pointer (some ⟨q, 0, none⟩), .pointer (some ⟨db, 0, none⟩), .pointer (some ⟨lb, 0, none⟩)] w fun e w' => e = .returned (.int .i64 0) ∧ Below w.heap.size w w' := by
  have hdd : decide (C ≤ (qs.length : Int)) = true := decide_eq_true hlt
  obtain ⟨av, capv, rfl⟩ := hB.shape
  have HFU := hid (full_any hd (R.cell _ _ hC) (R.cell _ _ hv))
  have d0 := hdb.cell 0 _ rfl
  clear R hC hv hB hdb hlt
  go_enter Try.func28, Try.ntmps28
  go_wp2_with (go_at_call 24; refine Calls.mono HFU.out ?_; rintro e w3 ⟨rfl, q3, rfl⟩; rw [hdd])
  go_ret
  exact ⟨rfl, below_drewN (Below.refl _ _) _⟩
set_option maxHeartbeats 1000000 in
theorem find_full {w : World} {p n g k d j lb db : Nat} {c : List Value} {v : Value} {qs : List Nat} {C : Int}
    (HN : Row w p [.slice (some ⟨g, 0, none⟩) n n] 52) (R : Row w g c 67) (hk : k < n) (hd : d < 2) (hup : c[k * 16]? = some (.bool true)) (hC : c[k * 16 + 1]? = some (.int .i64 C)) (hv : c[k * 16 + 14 + d]? = some v) (hB : BagAt w v qs) (hlt : C ≤ (qs.length : Int)) (hj : j < qs.length) (hdb : Row w db [.int .i64 d] 3) :
    Calls Try.prog 27 #[.pointer (some ⟨p, 0, none⟩), .int .i64 k, .int .i64 d, .int .i64 j, .bool true, .func (.func 28) #[] #[.pointer (some ⟨db, 0, none⟩), .pointer (some ⟨lb, 0, none⟩)]] w fun e w' => e = .returned (.int .i64 0) ∧ Below w.heap.size w w' := by
  have HBI := hid (bag_in (HN.cell 0 _ rfl) hk hd)
  have HP := hid (double1_full (q := qs[j]) (lb := lb) R hd hC hv hB hlt hdb)
  have c0 := R.cell _ _ hup
  have c1 := R.cell _ _ hv
  obtain ⟨gbb, o, cap, rfl, c2⟩ := hB.cell j hj
  have k1 : (0 : Int) ≤ (d : Int) := by omega
  have k2 : (d : Int) < 2 := by omega
  have j1 : decide ((j : Int) < 0) = false := by simp
  have j2 : decide ((qs.length : Int) ≤ (j : Int)) = false := by simp; omega
  have j3 : decide ((j : Int) ≥ (qs.length : Int)) = false := by simp; omega
  have j4 : (j : Int) < (qs.length : Int) := by omega
  unfold ptr at c2
  clear R hup hC hv hB hlt hdb HN hk
  generalize qs[j] = q at *
  go_enter Try.func27, Try.ntmps27
  go_wp2_with (first
    | (go_at_call 23; refine Calls.mono HBI.out ?_; rintro e w' ⟨rfl, rfl⟩)
    | (go_at_call 28; refine Calls.mono HP.out ?_; rintro e w1 ⟨rfl, h1⟩; have H1 := hid h1; clear h1))
  go_ret
  exact ⟨rfl, H1.out⟩
set_option maxHeartbeats 1000000 in
theorem double_full {w : World} {p n g k d j : Nat} {c : List Value} {v : Value} {qs : List Nat} {C : Int}
    (HN : Row w p [.slice (some ⟨g, 0, none⟩) n n] 52) (R : Row w g c 67) (hk : k < n) (hd : d < 2) (hup : c[k * 16]? = some (.bool true)) (hC : c[k * 16 + 1]? = some (.int .i64 C)) (hv : c[k * 16 + 14 + d]? = some v) (hB : BagAt w v qs) (hlt : C ≤ (qs.length : Int)) (hj : j < qs.length) :
    Calls Try.prog 11 #[.pointer (some ⟨p, 0, none⟩), .int .i64 k, .int .i64 d, .int .i64 j] w fun e w' => e = .returned (.tuple #[.bool false, .int .i64 0]) ∧ Below w.heap.size w w' := by
  have hb := below_grow (below_grow (Below.refl w.heap.size w) (.cells #[.int .i64 d] 3)) (.cells #[.bool false] 4)
  have r1 : Row ((w.alloc (.cells #[.int .i64 d] 3)).alloc (.cells #[.bool false] 4)) w.heap.size [.int .i64 d] 3 := (Row.new' _ _ _ _ _ rfl rfl).alloc _
  have r2 : Row ((w.alloc (.cells #[.int .i64 d] 3)).alloc (.cells #[.bool false] 4)) (w.heap.size + 1) [.bool false] 4 := Row.new' _ _ _ _ _ (by simp) rfl
  have HF := hid (find_full (lb := w.heap.size + 1) (HN.kept hb HN.lt) (R.kept hb R.lt) hk hd hup hC hv (hB.kept hb) hlt hj r1)
  have HB := hid hb
  have HL := hid r2
  clear HN R hk hup hC hv hB hlt hb r1 r2
  go_enter Try.func11, Try.ntmps11
  go_upto_region 3 with (go_at_call 27; refine Calls.mono HF.out ?_; rintro e w1 ⟨rfl, h1⟩; have H1 := hid h1; clear h1)
  have c0 := (HL.out.kept H1.out HL.out.lt).cell 0 _ rfl
  have HX := hid (HB.out.trans (H1.out.mono HB.out.size))
  clear HF H1 HL HB
  go_wp2
  go_ret2
  exact ⟨rfl, HX.out⟩
end Go.Proofs.Ytjnmfedefmemnaa
