import Derived.Test.YtaklbofbhanjgaaDoorBd3
namespace Go.Proofs.YtaklbofbhanjgaaDoor
open Go.RowKit Go.Maps
set_option maxRecDepth 100000
set_option maxHeartbeats 2000000 in
theorem over_none {g o lo : Nat} {w : World} (hlo : lo ≤ 16777216) (hK : KTab w) (h2 : 2 ≤ w.heap.size) :
    Calls Tryd.prog 53 #[.pointer (some ⟨g, o, none⟩), .int .i64 (lo : Int), .int .i64 (lo : Int)] w fun e w' => e = .returned (.agg (bcells (sha [])).toArray) ∧ Below w.heap.size w w' := by
  have I73 := hid i44
  have HK := hid hK
  have H2 := hid h2
  have q1 : (lo : Int) ≤ 16777216 := by omega
  clear hK h2 hlo
  go_enter Tryd.func53, Tryd.ntmps53
  go_upto_region 1 with (fail)
  refine wp_world fun wa HW => ?_
  have HRr : Hid (Row wa w.heap.size (bcells z32) 25) := by show Row _ _ _ _; rw [HW.out]; exact Row.new' _ _ _ _ _ rfl rfl
  have HBa : Hid (Below w.heap.size w wa) := by show Below _ _ _; rw [HW.out]; exact (Below.refl _ _).alloc (Nat.le_refl _) _
  clear HW
  have HE : Hid ((sha []).length = 32) := sha_len _
  have HCa : Hid (Calls Tryd.prog 37 #[.slice none 0 0] wa fun e w' => e = .returned (.agg (bcells (sha [])).toArray) ∧ Below wa.heap.size wa w') := of_any (ps := []) (fun k hk => absurd hk (Nat.not_lt_zero _)) (by simp) (HK.out.kept HBa.out) (Nat.le_trans H2.out HBa.out.size)
  obtain ⟨E, hE⟩ : ∃ E, sha [] = E := ⟨_, rfl⟩
  rw [hE] at HE HCa
  have HEE := hid hE
  clear hE
  go_wp2_with (first
    | (go_at_call 37; refine Calls.mono HCa.out ?_; rintro e w2 ⟨rfl, hb2⟩
       have HB2 := hid hb2
       have HR2 : Hid (Row w2 w.heap.size (bcells z32) 25) := hid (HRr.out.kept hb2 HRr.out.lt)
       clear hb2)
    | (show wpList _ _ _ (Oper.mk none (.store 25 (.tmp 6) (.tmp 14)) _ _ _ _ :: _) _ _; refine HR2.out.wpStore' 25 (.tmp 6) (.tmp 14) (bcells E) rfl rfl rfl rfl (by rw [bcells_len, bcells_len, HE.out]; rfl) (bcells_one _) (by rw [bcells_len, HE.out]; exact I73.out) ?_; intro wz HZ))
  have R : Row wz w.heap.size (bcells E) 25 := by rw [HZ.out]; exact HR2.out.row _
  have hB : Below w.heap.size w wz := by rw [HZ.out]; exact Go.below_setRow (HBa.out.trans (HB2.out.mono HBa.out.size)) (Nat.le_refl _) _
  exact bodyPost_ret (v := .agg (bcells E).toArray) (R.result Tryd.results53 _ rfl _ Tryd.underlying25 rfl (by rw [bcells_len, HE.out]; exact I73.out)) rfl ⟨by rw [HEE.out], hB⟩
theorem eg53 : ∀ args w, (callFunc 53 args).run Tryd.prog w = .ok (.enter 53 args) w := enters_of Tryd.func53 (by kernel_rfl) rfl
/-- The root over a body's pieces from lo on, ahead of hi. -/
theorem over_any {g o c p m B : Nat} {a : Option Addr} {bs : List (BitVec 8)} (hp1 : 1 ≤ p) (hp2 : p ≤ 65536) (hn : bs.length ≤ 16777216) (hc : bs.length ≤ c) (hc2 : c ≤ 9223372036854775807) : ∀ (k lo hi : Nat) (w : World), lo ≤ hi → hi - lo ≤ k → hi ≤ (leavesL bs p).length → BdI g o a c p m bs B w → B ≤ w.heap.size → KTab w → 2 ≤ w.heap.size →
    Calls Tryd.prog 53 #[.pointer (some ⟨g, o, none⟩), .int .i64 (lo : Int), .int .i64 (hi : Int)] w fun e w' => e = .returned (.agg (bcells (overL (leavesL bs p) lo hi)).toArray) ∧ Fr (fun k => k = m) w w' ∧ BdI g o a c p m bs B w'
  | k, lo, hi, w, h1, h2, h3, hI, hB, hK, hZ => by
    have hle := leavesL_le bs hp1
    by_cases e : lo = hi
    · subst e
      rw [overL_none]
      refine (over_none (by omega) hK hZ).mono ?_
      rintro e w' ⟨rfl, hb⟩
      exact ⟨rfl, Fr.of_below hb (Nat.le_refl _), hI.kept hb⟩
    · cases k with
      | zero => omega
      | succ k =>
        have h32 := leavesL_32 bs p
        rcases hI.cr.look2 (lo := lo) (hi := hi) (by omega) (by omega) with hl | hl
        · refine over_miss hI (by omega) (by omega) h3 hp1 hp2 hn hc hc2 hB hK hZ (fun wx hb => ?_) hl
          have O : Oth1 53 (.pointer (some ⟨g, o, none⟩)) B lo hi (fun k => k = m) (fun (_ : Unit) w => BdI g o a c p m bs B w) (fun _ x y => overL (leavesL bs p) x y) (fun _ _ _ => ()) (fun _ => 0) :=
            { eg := eg53
              call := fun w' _ x y hI' _ hK' hZ' hB' hx hxy hy hd => (over_any hp1 hp2 hn hc hc2 k x y w' (by omega) (by omega) (by omega) hI' hB' hK' hZ').mono fun e w2 q => ⟨q.1, overL_len h32 (by omega), q.2.1, q.2.2⟩
              keep := fun _ w1 w2 h f => h.fr f
              tick := fun _ _ _ => Nat.zero_le _
              len := fun _ x y _ _ _ _ => overL_len h32 (by omega) }
          have hcl := climb_any1 O (i := lo) (f := (leavesL bs p).getD lo z32) (s := ()) (w := wx) (pthAns_len h32 lo 0 0) (fun e => by have := hI.m1; omega) (fun k hk => by rw [hk]; exact hI.mB) (Nat.le_trans hB hb.size) (by omega) (by omega) (hK.kept hb) (Nat.le_trans hZ hb.size) rfl (hI.kept hb)
          rw [overL_some (by omega) (by omega)]
          exact hcl
        · refine (over_hit hI (by omega) (by omega) (overL_len h32 h1) hl).mono ?_
          rintro e w' ⟨rfl, hb⟩
          exact ⟨rfl, Fr.of_below hb (Nat.le_refl _), hI.kept hb⟩
end Go.Proofs.YtaklbofbhanjgaaDoor
