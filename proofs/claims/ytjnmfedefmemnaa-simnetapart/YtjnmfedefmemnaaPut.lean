import Derived.Test.YtjnmfedefmemnaaRoad
namespace Go.Proofs.Ytjnmfedefmemnaa
open Go.RowKit
set_option maxRecDepth 100000

theorem Row.drewN {w : World} {g : Nat} {c : List Value} {t : TypeId} (h : Row w g c t) (n : Nat) : Row (w.drewN n) g c t := ⟨h.at_⟩
theorem below_drewN {B : Nat} {a w : World} (h : Below B a w) (n : Nat) : Below B a (w.drewN n) := ⟨h.os, h.tape, h.output, h.size, h.block⟩
theorem set_at {c : List Value} {i j : Nat} {x v : Value} (h : c[i]? = some v) (hne : i ≠ j) : (c.set j x)[i]? = some v := by rw [List.getElem?_set_ne (Ne.symm hne)]; exact h
theorem set_len {c : List Value} {i j : Nat} {x v : Value} (h : c[i]? = some v) : i < (c.set j x).length := by
  have := (List.getElem?_eq_some_iff.1 h).1
  simpa using this
theorem BytesAt.set {w : World} {a : Option Addr} {bs : List (BitVec 8)} {ad : Addr} {P : Int} (h : BytesAt w a bs) (hc : w.cell? ad = some (.int .u64 P)) (x : Value) : BytesAt (w.setCell ad x) a bs := fun k hk => by
  obtain ⟨g, o, e, c⟩ := h k hk
  refine ⟨g, o, e, ?_⟩
  rw [World.cell?_setCell_other (h := fun e2 => by rw [← e2, hc] at c; cases c)]
  exact c
theorem BytesAt.drewN {w : World} {a : Option Addr} {bs : List (BitVec 8)} (h : BytesAt w a bs) (n : Nat) : BytesAt (w.drewN n) a bs := h
theorem PAt.ofRow {w w' : World} {q : Nat} {bs : List (BitVec 8)} {S : List Nat} (h : PAt w q bs) (ho : Only S w w') (hS : ∀ x ∈ S, ∃ c t, Row w x c t ∧ (t = 67 ∨ t = 73)) : PAt w' q bs :=
  h.only ho fun x hx => by
    obtain ⟨c, t, R, e⟩ := hS x hx
    refine ⟨c, t, R, ?_, ?_⟩ <;> rcases e with rfl | rfl <;> decide
set_option maxHeartbeats 2000000 in
/-- Put of a frame onto a path that is up, into a bag that is not full. -/
theorem put_in {w : World} {p n g k d : Nat} {c : List Value} {C P : Int} {v : Value} {qs : List Nat} {a : Option Addr} {m cap : Nat} {bs : List (BitVec 8)}
    (HN : Row w p [.slice (some ⟨g, 0, none⟩) n n] 52) (R : Row w g c 67) (hk : k < n) (hd : d < 2) (hup : c[k * 16]? = some (.bool true)) (hC : c[k * 16 + 1]? = some (.int .i64 C)) (hP : c[k * 16 + 4 + d]? = some (.int .u64 P))
    (hv : c[k * 16 + 14 + d]? = some v) (hB : BagAt w v qs) (hlt : (qs.length : Int) < C) (hC30 : C ≤ 1073741824) (hF : BytesAt w a bs) (hm : bs.length = m) (hm2 : m ≤ 140737488355328) :
    Calls Try.prog 10 #[.pointer (some ⟨p, 0, none⟩), .int .i64 k, .int .i64 d, .slice a m cap] w fun e w' => e = .returned (.tuple #[.bool true, .int .i64 0]) ∧ ∃ v' q P', Row w' g ((c.set (k * 16 + 4 + d) (.int .u64 P')).set (k * 16 + 14 + d) v') 67 ∧ BagAt w' v' (qs ++ [q]) ∧ w.heap.size ≤ q ∧ PAt w' q bs ∧ Only (g :: blk v) w w' ∧ (∀ x ∈ blk v', x ∈ blk v ∨ w.heap.size ≤ x) := by
  have HBI := hid (bag_in (HN.cell 0 _ rfl) hk hd)
  have k1 : (0 : Int) ≤ (d : Int) := by omega
  have k2 : (d : Int) < 2 := by omega
  have hdd : decide (C ≤ (qs.length : Int)) = false := by simp; omega
  have hbk : g ∉ blk v := fun hm => by obtain ⟨c', R'⟩ := hB.blkRow g hm; exact absurd (R.type R') (by decide)
  have HR := hid R
  have HUP := hid hup
  have HC := hid hC
  have HV := hid hv
  have HB := hid hB
  have HF := hid hF
  have HM := hid hm
  have HM2 := hid hm2
  have HL : Hid (qs.length ≤ 1073741824) := by show qs.length ≤ _; omega
  have HBK := hid hbk
  have e1 := R.cell _ _ hP
  have f1 := R.frozen (k * 16 + 4 + d)
  clear R hup hC hv hB hlt hC30 hF hm hm2 HN hbk hk
  go_enter Try.func10, Try.ntmps10
  go_upto_region 4 with (go_at_call 23; refine Calls.mono HBI.out ?_; rintro e w' ⟨rfl, rfl⟩)
  refine wp_region_still_tail 12 (by kernel_rfl) (by kernel_rfl) ?_
  replace e1 := cell_drawn (w'.drawn + 1) e1
  replace f1 := frozen_drawn (w'.drawn + 1) f1
  replace HR : Hid _ := HR.out.drawn (w'.drawn + 1)
  have HB0 := hid (below_drawn (Below.refl w'.heap.size w') (w'.drawn + 1))
  generalize ({ w' with drawn := w'.drawn + 1 } : World) = wq at *
  simp only [List.take_succ_cons, List.take_zero, List.drop_succ_cons, List.drop_zero]
  iterate 12 still_step
  refine wpStill_nil ?_
  go_upto_region 5 with (fail)
  refine wp_world fun w2 HW => ?_
  have hR2 : ∃ P', Row w2 g (c.set (k * 16 + 4 + d) (.int .u64 P')) 67 ∧ Only [g] w' w2 := by
    rw [HW.out]
    exact ⟨_, HR.out.set _ _, (Only.of_below (S := [g]) HB0.out (Nat.le_refl _)).setCell g _ _ (.inl (by simp))⟩
  have HF2 : Hid (BytesAt w2 a bs) := by show BytesAt _ _ _; rw [HW.out]; exact (HF.out.kept HB0.out).set e1 _
  obtain ⟨P', R2, O2⟩ := hR2
  have HB2 := hid (HB.out.only O2 (fun x hx hm => HBK.out ((List.mem_singleton.1 hm) ▸ hx)))
  have hS := HB.out.shape
  obtain ⟨av, capv, rfl⟩ := hS
  have u0 := R2.cell (k * 16) _ (set_at HUP.out (by omega))
  have u1 := R2.cell (k * 16 + 1) _ (set_at HC.out (by omega))
  have u2 := R2.cell (k * 16 + 14 + d) _ (set_at HV.out (by omega))
  have HV2 := hid (set_at (x := .int .u64 P') (j := k * 16 + 4 + d) HV.out (by omega))
  have HFU := hid (full_any hd u1 u2)
  have HR2 := hid R2
  have HO2 := hid O2
  clear e1 f1 HR HW R2 O2 u1 u2 hP HF HB0
  go_upto_region 8 with (go_at_call 24; refine Calls.mono HFU.out ?_; rintro e w3 ⟨rfl, q3, rfl⟩; rw [hdd])
  have HPA := hid (parcel_any (cap := cap) (HF2.out.drewN q3) HM.out HM2.out)
  have HR3 := hid (HR2.out.drewN q3)
  have HB3 : Hid (BagAt (w2.drewN q3) (.slice av qs.length capv) qs) := HB2.out.kept (below_drewN (Below.refl _ _) q3)
  have HO3 := hid (HO2.out.drew q3)
  clear u0 HFU HR2 HB2 HO2 HF2
  generalize w2.drewN q3 = w3 at *
  go_wp2_with (first
    | (go_at_call 26; refine Calls.mono HPA.out ?_; rintro e w4 ⟨q, rfl, hq, hpa, hb⟩; have HQ := hid hq; have HA := hid hpa; have HB4 := hid hb; clear hq hpa hb)
    | (go_at_call 25; refine (lay_any (HR3.out.kept HB4.out HR3.out.lt) hd HV2.out (HB3.out.kept HB4.out) HL.out).mono ?_; rintro e w5 ⟨rfl, v', hr, hbag, ho, hx⟩; have HR5 := hid hr; have HB5 := hid hbag; have HO5 := hid ho; have HX5 := hid hx; clear hr hbag ho hx))
  go_ret2
  have hO4 : Only [g] w' w4 := HO3.out.trans (Only.of_below (S := []) HB4.out (Nat.le_refl _)) (by simp)
  refine ⟨rfl, v', q, P', HR5.out, HB5.out, Nat.le_trans HO3.out.size HQ.out, ?_, ?_, fun x hx => ?_⟩
  · refine HA.out.ofRow HO5.out ?_
    intro x hx
    rcases List.mem_cons.1 hx with rfl | hx
    · exact ⟨_, _, HR3.out.kept HB4.out HR3.out.lt, .inl rfl⟩
    · obtain ⟨c', R'⟩ := (HB3.out.kept HB4.out).blkRow x hx
      exact ⟨_, _, R', .inr rfl⟩
  · exact (hO4.wider (fun x hx => by simp at hx; simp [hx])).trans HO5.out (fun x hx => .inl hx)
  · rcases HX5.out x hx with h | h
    · exact .inl h
    · exact .inr (Nat.le_trans hO4.size h)
end Go.Proofs.Ytjnmfedefmemnaa
