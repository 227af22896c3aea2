import Derived.Test.YtoeldomhkeancaaPk0
import Derived.Lib.UnsafeStr
namespace Go.Proofs.Ytoeldomhkeancaa
open Go.RowKit Go.Maps
set_option maxRecDepth 100000

theorem abcd_cells : (bcells abcd).toArray = #[.int .u8 97, .int .u8 98, .int .u8 99, .int .u8 100] := rfl
theorem seven_cells : (bcells seven).toArray = #[.int .u8 49, .int .u8 50, .int .u8 51, .int .u8 52, .int .u8 53, .int .u8 54, .int .u8 55] := rfl
theorem abcd_str : strOf abcd = ⟨#[97, 98, 99, 100]⟩ := rfl
theorem el_nil (w : World) (a : Option Addr) : ElAt w a [] := fun k x hx => by simp at hx
theorem conv23 {w : World} {g : Nat} {cs : List Value} (h : Row w g cs 5) (n c : Nat) : (convert 23 23 (.slice (some ⟨g, 0, none⟩) n c)).run Try.prog w = .ok (.slice (some ⟨g, 0, none⟩) n c) (w.freeze ⟨g, cs.length, none⟩ 1) := by
  have hs : w.shape? g = some (5, cs.length) := by simp [World.shape?, h.at_]
  simp [convert, markStringish, run_underlying Try.underlying23, run_underlying Try.underlying5, hs]
theorem freeze_cells {w : World} {g k : Nat} {cs : List Value} (h : Row w g cs 5) (a : Addr) : (w.freeze ⟨g, k, none⟩ 1).cell? a = w.cell? a := by
  unfold World.freeze World.cell?
  rw [if_neg (by decide)]
  dsimp only
  by_cases e : a.block = g
  · rw [e, Array.getElem?_modify, if_pos rfl, h.at_]
    rfl
  · rw [Array.getElem?_modify, if_neg (fun h => e h.symm)]
theorem bytes_freeze {w : World} {g k : Nat} {cs : List Value} {a : Option Addr} {bs : List (BitVec 8)} (h : Row w g cs 5) (hb : BytesAt w a bs) : BytesAt (w.freeze ⟨g, k, none⟩ 1) a bs := fun j hj => by
  obtain ⟨g', o', e, hc⟩ := hb j hj
  exact ⟨g', o', e, (freeze_cells h _).trans hc⟩
/-- A constant's bytes are laid down. -/
theorem const_bytes (w : World) (bs : List (BitVec 8)) (k : Nat) : BytesAt ((w.alloc (.cells (bcells bs).toArray 5)).freeze ⟨w.heap.size, k, none⟩ 1) (some ⟨w.heap.size, 0, none⟩) bs ∧ Below w.heap.size w ((w.alloc (.cells (bcells bs).toArray 5)).freeze ⟨w.heap.size, k, none⟩ 1) :=
  ⟨bytes_freeze (Row.new w (bcells bs) 5) (Row.new w (bcells bs) 5).bytes, Go.Lib.below_freeze (below_new w _) (Nat.le_refl _) 1⟩
theorem cv4 (w : World) : (convert 23 23 (.slice (some ⟨w.heap.size, 0, none⟩) 4 4)).run Try.prog (w.alloc (.cells #[.int .u8 97, .int .u8 98, .int .u8 99, .int .u8 100] 5)) = .ok (.slice (some ⟨w.heap.size, 0, none⟩) 4 4) ((w.alloc (.cells (bcells abcd).toArray 5)).freeze ⟨w.heap.size, 4, none⟩ 1) := conv23 (Row.new w (bcells abcd) 5) 4 4
theorem cv7 (w : World) : (convert 23 23 (.slice (some ⟨w.heap.size, 0, none⟩) 7 7)).run Try.prog (w.alloc (.cells #[.int .u8 49, .int .u8 50, .int .u8 51, .int .u8 52, .int .u8 53, .int .u8 54, .int .u8 55] 5)) = .ok (.slice (some ⟨w.heap.size, 0, none⟩) 7 7) ((w.alloc (.cells (bcells seven).toArray 5)).freeze ⟨w.heap.size, 7, none⟩ 1) := conv23 (Row.new w (bcells seven) 5) 7 7
abbrev W4 (w : World) : World := (w.alloc (.cells (bcells abcd).toArray 5)).freeze ⟨w.heap.size, 4, none⟩ 1
abbrev W7 (w : World) : World := (w.alloc (.cells (bcells seven).toArray 5)).freeze ⟨w.heap.size, 7, none⟩ 1
theorem w_lt {w w' : World} {bs : List (BitVec 8)} (h : BytesAt w' (some ⟨w.heap.size, 0, none⟩) bs) (hl : 0 < bs.length) : w.heap.size < w'.heap.size := by
  obtain ⟨g, o, e, hc⟩ := h 0 hl
  injection e with e
  injection e with e1 e2
  subst e1
  exact World.block_lt_of_cell? w' _ hc
/-- The first Put. -/
theorem al_p1 {w1 : World} {p : Nat} {lv jv : Value} (h : LkAt w1 p (Lk.fresh 1000 500 10 [] [] lv jv)) (hk : (Lk.fresh 1000 500 10 [] [] lv jv).Ok) :
    Calls Try.prog 9 #[pt p 0, .int .u64 0, .slice (some ⟨w1.heap.size, 0, none⟩) 4 4] (W4 w1) fun e w' => e = .returned (.bool true) ∧ ∃ K' v, K'.Ok ∧ Lm p (Lk.fresh 1000 500 10 [] [] lv jv) w1 K' w' ∧ Al1 K' v := by
  obtain ⟨hB, hb⟩ := const_bytes w1 abcd 4
  have z1 : (0 : Int) ≤ 4611686018427387904 := by decide
  refine (put_any (h.below hb) hk 0 (Int.le_refl _) z1 (Int.le_refl _) z1 (Int.le_refl _) z1 hB (show abcd.length = 4 from rfl) (by decide) (Nat.zero_le _) (fun y hy => absurd hy List.not_mem_nil) (fun ad e _ => ?_)).mono fun e w' hp => ?_
  · injection e with e
    subst e
    refine ⟨w_lt hB (by decide), ?_⟩
    rintro (e | e | e)
    · have := h.row.lt; have e' : w1.heap.size = p := e; omega
    · exact absurd e (by simp [Lk.fresh, Value.ownBlock])
    · exact absurd e (by simp [Lk.fresh, Value.ownBlock])
  · obtain ⟨h1, K', v, h2, h3, h4⟩ := al_one hp hk
    exact ⟨h1, K', v, h2, h3.ahead hb, h4⟩
theorem al_p2 {w1 : World} {p : Nat} {K : Lk} {v : Value} (h : LkAt w1 p K) (hk : K.Ok) (ha : Al1 K v) :
    Calls Try.prog 9 #[pt p 0, .int .u64 0, .slice (some ⟨w1.heap.size, 0, none⟩) 7 7] (W7 w1) fun e w' => e = .returned (.bool false) ∧ ∃ K', K'.Ok ∧ Lm p K w1 K' w' ∧ K'.now = 0 ∧ K'.queue = 10 ∧ K'.come = 0 ∧ K'.Fl = [⟨4500, 0, v⟩] ∧ K'.D 0 = abcd := by
  obtain ⟨hB, hb⟩ := const_bytes w1 seven 7
  refine (put_any (h.below hb) hk 0 (by rw [ha.put]; decide) (by rw [ha.put]; decide) (by rw [ha.cnt.1]; decide) (by rw [ha.cnt.1]; decide) (by rw [ha.cnt.2.1]; decide) (by rw [ha.cnt.2.1]; decide) hB (show seven.length = 7 from rfl) (by decide) (by rw [ha.Fl]; show 1 ≤ _; decide) (fun y hy => ?_) (fun ad e _ => ?_)).mono fun e w' hp => ?_
  · rw [ha.Fl] at hy
    simp at hy
    subst hy
    rw [ha.put]
    show (0 : Int) ≠ 1
    decide
  · injection e with e
    subst e
    refine ⟨w_lt hB (by decide), fun hf => ?_⟩
    have := h.lt (.inl hf)
    have e' : (⟨w1.heap.size, 0, none⟩ : Addr).block = w1.heap.size := rfl
    omega
  · obtain ⟨h1, K', h2, h3, h4⟩ := al_two ha hp hk
    exact ⟨h1, K', h2, h3.ahead hb, h4⟩
theorem own_one {w : World} {base : Nat} {s v : Value} {t n : Int} (h : w.ownsRow base 55 3 s 1 (icells ⟨t, n, v⟩)) : ∃ g cap, s = .slice (some ⟨g, 0, none⟩) 1 cap ∧ w.cell? ⟨g, 0, none⟩ = some (.int .u64 t) ∧ w.cell? ⟨g, 2, none⟩ = some v := by
  obtain ⟨hl, ⟨_, hn⟩ | ⟨g, cap, cur, rfl, hb, hg, hnc, hcm, hcs, htk⟩⟩ := h
  · cases hn
  · have hk : ∀ (j : Nat) x, (icells ⟨t, n, v⟩)[j]? = some x → w.cell? ⟨g, j, none⟩ = some x := fun j x hx => by
      have hj := flatI_cell _ hx
      rw [cell_of_row w g _ _ _ _ hg, ← Array.getElem?_toList, ← hx, ← htk, List.getElem?_take, if_pos (by omega)]
    exact ⟨g, cap, rfl, hk 0 _ rfl, hk 2 _ rfl⟩
theorem Lm.ge {w w' : World} {p : Nat} {K K' : Lk} (h : Lm p K w K' w') {B : Nat} (hB : ∀ k, Foot p K k → B ≤ k) (hw : B ≤ w.heap.size) : (∀ k, Foot p K' k → B ≤ k) ∧ Below B w w' :=
  ⟨fun k hk => by rcases h.gr k hk with e | e; exact hB k e; omega, h.fr.below hB hw⟩
set_option maxHeartbeats 4000000 in
/-- Something that must come. -/
theorem alive_any (w : World) : Calls Try.prog 13 #[] w fun e w' => e = .returned (.bool true) ∧ Below w.heap.size w w' := by
  have hfit : fitE 1000 500 10 ([] : List Bool).length [] = 0 := by decide
  have HN := hid (new_ok (w := w) (la := none) (ja := none) (lc := 0) (jc := 0) (loss := []) (jit := []) (el_nil _ _) (el_nil _ _) hfit)
  have HOK := hid (fun lv jv => fresh_ok (lv := lv) (jv := jv) hfit)
  obtain ⟨B, hB⟩ : ∃ B, w.heap.size = B := ⟨_, rfl⟩
  have HBB := hid hB
  clear hB hfit
  go_enter Try.func13, Try.ntmps13
  go_upto_region 2 with (go_at_call 15; refine HN.out.mono ?_; rintro e w1 ⟨p, lv, jv, rfl, hA, hp, hB⟩; have HA := hid hA; have HP := hid hp; have HB1 := hid hB; clear hA hp hB)
  have HP1 := hid (al_p1 HA.out (HOK.out lv jv))
  have hc4 := cv4
  have hc7 := cv7
  go_upto_region 4 with (first
    | (go_at_call 9; refine HP1.out.mono ?_; rintro e w3 ⟨rfl, K3, v3, hok3, hL3, hA3⟩; have HP2 := hid (al_p2 hL3.at_ hok3 hA3); have HL3 := hid hL3; clear hok3 hL3 hA3 HP1)
    | (go_at_call 9; refine HP2.out.mono ?_; rintro e w5 ⟨rfl, K5, hok5, hL5, hn5, hq5, hc5, hF5, hD5⟩; have HOK5 := hid hok5; have HL5 := hid hL5; have HF5 := hid (And.intro hn5 (And.intro hq5 (And.intro hc5 (And.intro hF5 hD5)))); clear hok5 hL5 hn5 hq5 hc5 hF5 hD5 HP2))
  have HNX : Hid (Calls Try.prog 10 #[pt p 0] w5 fun e w' => e = .returned (.tuple #[.int .u64 4500, .bool true]) ∧ w' = w5) := hid (next_some HL5.out.at_ (x := ⟨4500, 0, v3⟩) (by rw [HF5.out.2.1]; decide) (by rw [HF5.out.2.2.2.1]; rfl) (by rw [HF5.out.2.2.2.1]; show 1 ≤ _; decide))
  have HTA := hid ((take_any HL5.out.at_ HOK5.out 4500 (by rw [HF5.out.2.2.2.1]; show 1 ≤ _; decide) (by rw [HF5.out.2.2.1]; decide) (by rw [HF5.out.2.2.1]; decide)).mono fun e w' hp => al_three HF5.out.1 HF5.out.2.2.2.1 HF5.out.2.2.2.2 hp)
  have HFR := hid (HL3.out.trans HL5.out)
  clear HL3 HL5 HF5 HOK5
  go_upto_region 6 with (first
    | (go_at_call 10; refine HNX.out.mono ?_; rintro e w5 ⟨rfl, rfl⟩)
    | (go_at_call 11; refine HTA.out.mono ?_; rintro e w6 ⟨s, rfl, ⟨K6, hL6⟩, hO6, hV6⟩; have HL6 := hid hL6; have HO6 := hid hO6; have HV6 := hid hV6; clear hL6 hO6 hV6))
  obtain ⟨a6, c6, hv6, hB6, -⟩ := ownBy_shape HV6.out
  have hcv := convert_any (cap := c6) hB6 rfl
  rw [abcd_str] at hcv
  obtain ⟨g6, cp6, rfl, d0, d2⟩ := own_one HO6.out
  rw [hv6] at d2
  have hl4 : abcd.length = 4 := rfl
  rw [hl4] at hcv d2
  have HBF := hid (HB1.out.trans (((HFR.out.trans HL6.out).ge (B := w.heap.size) (fun k hk => by
    rcases hk with e | e | e
    · rw [e]; exact HP.out
    · exact absurd e (by simp [Lk.fresh, Value.ownBlock])
    · exact absurd e (by simp [Lk.fresh, Value.ownBlock])) HB1.out.size).2))
  clear HFR HL6 HO6 HV6 hv6 hB6 HA HNX HTA hl4
  go_wp2_with fail
  go_ret
  exact ⟨rfl, HBF.out⟩
end Go.Proofs.Ytoeldomhkeancaa
