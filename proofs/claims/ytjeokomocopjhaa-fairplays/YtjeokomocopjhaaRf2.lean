import Derived.Test.YtjeokomocopjhaaRf1
import Derived.Test.YtjeokomocopjhaaVw
namespace Go.Proofs.Ytjeokomocopjhaa
open Go.RowKit Go.Maps
set_option maxRecDepth 100000

def sumS : List Sm → Int
  | [] => 0
  | x :: r => x.wt + sumS r
theorem sumS_app : ∀ a b : List Sm, sumS (a ++ b) = sumS a + sumS b
  | [], b => by simp [sumS]
  | x :: a, b => by simp only [List.cons_append, sumS, sumS_app a b]; omega
theorem sumS_bd : ∀ {a : List Sm}, (∀ x ∈ a, 0 ≤ x.wt ∧ x.wt ≤ 1099511627776) → 0 ≤ sumS a ∧ sumS a ≤ 1099511627776 * (a.length : Int)
  | [], _ => ⟨Int.le_refl _, Int.le_refl _⟩
  | x :: r, h => by
    have h1 := h x (by simp)
    have h2 := sumS_bd (a := r) (fun y hy => h y (by simp [hy]))
    simp only [sumS, List.length_cons]
    omega
set_option maxHeartbeats 2000000 in
theorem rwaiting_any {w : World} {r : Nat} {vL : Value} {V : Nat → Value} {q : Int} {l : List Sm} {R : Nat → List Int} (h : RfAt w r vL V q l R) (hw : ∀ x ∈ l, 0 ≤ x.wt ∧ x.wt ≤ 1099511627776) (hl : l.length ≤ 1024) :
    Calls Try.prog 19 #[pt r 0] w fun e w' => e = .returned (.int .i64 (sumS l)) ∧ Below w.heap.size w w' := by
  have c1 := h.row.cell 1 _ rfl
  have hli : (l.length : Int) ≤ 1024 := by omega
  rcases lst_shape h.lst with ⟨rfl, e⟩ | ⟨g, cap, rfl, hlc, hcm, hgl, hcell, hfr⟩
  · subst e
    clear h hw
    go_enter Try.func19, Try.ntmps19
    go_wp2_with fail
    refine wp_loop_rounds 1 ?_
    rw [rounds_succ]
    go_wp2_with fail
    go_ret
    exact ⟨by first | rfl | simp, Below.refl _ _⟩
  have HC := hid2 hcell
  have HW := hid2 hw
  clear h hcell hfr hlc hcm hgl hl hw
  go_enter Try.func19, Try.ntmps19
  go_wp2_with fail
  go_loopw [3, 11] (fun s3 s wr => ∃ k : Nat, k ≤ l.length ∧ s = .int .i64 k ∧ s3 = .int .i64 (sumS (l.take k)) ∧ Below w.heap.size w wr) (fun _ s _ => l.length + 1 - (intOf s).toNat)
  case atStart => exact ⟨0, Nat.zero_le _, rfl, rfl, Below.refl _ _⟩
  case round =>
    obtain ⟨k, hk, rfl, rfl, hb⟩ := hrel
    have HB := hid2 hb
    clear hb
    by_cases hlt : k < l.length
    · have hki : (k : Int) < (l.length : Int) := by omega
      have c0 := cell_kept HB.out (HC.out (k * 6 + 0) _ (flatS_get hlt (by decide)))
      have d1 := cell_kept HB.out (HC.out (k * 6 + 1) _ (flatS_get hlt (by decide)))
      have d2 := cell_kept HB.out (HC.out (k * 6 + 2) _ (flatS_get hlt (by decide)))
      have d3 := cell_kept HB.out (HC.out (k * 6 + 3) _ (flatS_get hlt (by decide)))
      have d4 := cell_kept HB.out (HC.out (k * 6 + 4) _ (flatS_get hlt (by decide)))
      have d5 := cell_kept HB.out (HC.out (k * 6 + 5) _ (flatS_get hlt (by decide)))
      rw [Nat.add_zero] at c0
      have hbd := sumS_bd (a := l.take k) (fun x hx => HW.out x (List.mem_of_mem_take hx))
      have hkl : (l.take k).length ≤ 1024 := by simp; omega
      have hs0 : 0 ≤ sumS (l.take k) := hbd.1
      have hs1 : sumS (l.take k) ≤ 1125899906842624 := by omega
      have hx := HW.out l[k] (List.getElem_mem hlt)
      have HT : Hid (sumS (l.take (k + 1)) = sumS (l.take k) + l[k].wt) := by
        show _ = _
        rw [List.take_succ_eq_append_getElem hlt, sumS_app]
        simp [sumS]
      generalize l[k] = x at *
      generalize sumS (l.take k) = T at *
      have hx0 : 0 ≤ x.wt := hx.1
      have hx1 : x.wt ≤ 1099511627776 := hx.2
      have HBX := hid2 (HB.out.trans ((below_box wr (.cells x.cells.toArray 71)).mono HB.out.size))
      clear hbd hx hkl
      go_wp2_with fail
      go_roundw
      case rel => exact ⟨k + 1, hlt, by go_num, by rw [HT.out], HBX.out⟩
      case measure => simp [intOf]; omega
    · obtain rfl : k = l.length := by omega
      have hki : ¬ (l.length : Int) < (l.length : Int) := by omega
      rw [List.take_length]
      go_wp2_with fail
      go_ret
      exact ⟨by first | rfl | simp, HB.out⟩
def Sm.vcells (x : Sm) : List Value := [.int .u64 x.num, .int .i64 x.cls, .int .i64 x.shr, .int .i64 x.wt, .int .i64 x.cr]
def flatV (L : List Sm) : List Value := L.flatMap Sm.vcells
theorem vcells_one (x : Sm) : ∀ v ∈ x.vcells, v.oneCell' = true := by
  intro v hv
  simp only [Sm.vcells, List.mem_cons, List.not_mem_nil, or_false] at hv
  rcases hv with rfl | rfl | rfl | rfl | rfl <;> rfl
theorem push_view {w : World} {base k : Nat} {v : Value} {old : List Value} {x : Sm} {bx : Nat} (h : w.ownsRow base 44 5 v k old) (hbase : base ≤ w.heap.size) (hl : k ≤ 2048) (hb : Row w bx x.vcells 44) (ty : TypeId) :
    ∃ v' w', (Builtin.append_ #[41, 41] ty #[v, .slice (some ⟨bx, 0, none⟩) 1 1]).run Try.prog w = .ok v' w' ∧ w'.ownsRow base 44 5 v' (k + 1) (old ++ x.vcells) ∧ Fr (fun k => base ≤ k) w w' := by
  obtain ⟨i, h1, h2, h3, h4⟩ := info44
  obtain ⟨v', w', hr, ho, hg, _, ha⟩ := run_append_own_at (P := Try.prog) w base 41 ty 44 i _ 5 40 Try.underlying41 h1 h2 h3 h4 rfl (by decide) v k old h ⟨bx, 0, none⟩ 1 1 x.vcells rfl (fun j u hu => by
    rw [Addr.add_mid, Nat.zero_add]; exact hb.cell j u hu) (vcells_one x) (by unfold maxLen; omega) (by omega) hbase
  exact ⟨v', w', hr, ho, Fr.of_grown hg (fun k e => .inl (own_ge h e))⟩
set_option maxHeartbeats 4000000 in
theorem rview_any {w : World} {r : Nat} {vL : Value} {V : Nat → Value} {q : Int} {l : List Sm} {R : Nat → List Int} (h : RfAt w r vL V q l R) (hl : l.length ≤ 1024) :
    Calls Try.prog 18 #[pt r 0] w fun e w' => ∃ v, e = .returned v ∧ w'.ownsRow w.heap.size 44 5 v l.length (flatV l) ∧ Below w.heap.size w w' := by
  have c1 := h.row.cell 1 _ rfl
  have hli : (l.length : Int) ≤ 1024 := by omega
  rcases lst_shape h.lst with ⟨rfl, e⟩ | ⟨g, cap, rfl, hlc, hcm, hgl, hcell, hfr⟩
  · subst e
    clear h
    go_enter Try.func18, Try.ntmps18
    go_wp2_with fail
    refine wp_loop_rounds 1 ?_
    rw [rounds_succ]
    go_wp2_with fail
    go_ret
    exact ⟨_, rfl, ⟨rfl, .inl ⟨rfl, rfl⟩⟩, Below.refl _ _⟩
  have HC := hid2 hcell
  have hbs := bsl44
  clear h hcell hfr hlc hcm hgl hl
  go_enter Try.func18, Try.ntmps18
  go_wp2_with fail
  go_loopw [3, 11] (fun s3 s wr => ∃ k : Nat, k ≤ l.length ∧ s = .int .i64 k ∧ wr.ownsRow w.heap.size 44 5 s3 k (flatV (l.take k)) ∧ Below w.heap.size w wr) (fun _ s _ => l.length + 1 - (intOf s).toNat)
  case atStart => exact ⟨0, Nat.zero_le _, rfl, ⟨rfl, .inl ⟨rfl, rfl⟩⟩, Below.refl _ _⟩
  case round =>
    obtain ⟨k, hk, rfl, hO, hb⟩ := hrel
    have HB := hid2 hb
    have HO := hid2 hO
    clear hb hO
    by_cases hlt : k < l.length
    · have hki : (k : Int) < (l.length : Int) := by omega
      have c0 := cell_kept HB.out (HC.out (k * 6 + 0) _ (flatS_get hlt (by decide)))
      have d1 := cell_kept HB.out (HC.out (k * 6 + 1) _ (flatS_get hlt (by decide)))
      have d2 := cell_kept HB.out (HC.out (k * 6 + 2) _ (flatS_get hlt (by decide)))
      have d3 := cell_kept HB.out (HC.out (k * 6 + 3) _ (flatS_get hlt (by decide)))
      have d4 := cell_kept HB.out (HC.out (k * 6 + 4) _ (flatS_get hlt (by decide)))
      have d5 := cell_kept HB.out (HC.out (k * 6 + 5) _ (flatS_get hlt (by decide)))
      rw [Nat.add_zero] at c0
      have HT : Hid (flatV (l.take (k + 1)) = flatV (l.take k) ++ l[k].vcells) := by
        show _ = _
        unfold flatV
        rw [List.take_succ_eq_append_getElem hlt, List.flatMap_append, List.flatMap_singleton]
      generalize l[k] = x at *
      have hb1 := below_box wr (.cells x.cells.toArray 71)
      have hb2 := below_box (wr.alloc (.cells x.cells.toArray 71)) (.cells x.vcells.toArray 44)
      have hs1 : (wr.alloc (.cells x.cells.toArray 71)).heap.size = wr.heap.size + 1 := by simp
      have hRx := Row.new (wr.alloc (.cells x.cells.toArray 71)) x.vcells 44
      have hb12 := hb1.trans (hb2.mono hb1.size)
      rw [hs1] at hRx
      obtain ⟨v', w', hrun, hO', hF'⟩ := push_view (own_keep (S := fun _ => False) HO.out (Fr.of_below hb12 (Nat.le_refl _)) (fun _ _ e => e)) (Nat.le_trans HB.out.size hb12.size) (by omega) hRx 41
      have HO2 := hid2 hO'
      have HB2 : Hid (Below w.heap.size w w') := (HB.out.trans (hb12.mono HB.out.size)).trans (hF'.below (fun _ e => e) (Nat.le_trans HB.out.size hb12.size))
      have HRUN := hid2 hrun
      clear hO' hF' hb1 hb2 hb12 hrun hRx hs1
      go_wp2_with (at_builtin; refine wpList_append_by rfl (.tmp 15) (.tmp 18) 41 rfl rfl rfl HRUN.out ?_)
      go_roundw
      case rel => exact ⟨k + 1, hlt, by go_num, by rw [HT.out]; exact HO2.out, HB2.out⟩
      case measure => simp [intOf]; omega
    · obtain rfl : k = l.length := by omega
      have hki : ¬ (l.length : Int) < (l.length : Int) := by omega
      rw [List.take_length] at HO
      go_wp2_with fail
      go_ret
      exact ⟨_, rfl, HO.out, HB.out⟩
end Go.Proofs.Ytjeokomocopjhaa
