import Derived.Test.YtahkbklhngiloaaCr2
namespace Go.Proofs.Ytahkbklhngiloaa
open Go.RowKit Go.Maps
set_option maxRecDepth 100000

/-- A book in which no stream is open. -/
def Bk.zero (s : Nat) (own peer : Rm) : Bk := ⟨s, if s = 0 then own else peer, if s = 0 then peer else own, 1, 2, 0, 0, ⟨0, peer.all, 0, 0, own.all⟩, []⟩
theorem mkmap (w : World) : (Instr.makeMap 44 none).run Try.prog w = .ok (.map (some w.heap.size)) (w.alloc (.map #[] 0)) := by kernel_rfl
theorem build31 (w : World) : (Instr.build 31 #[(0, .int .u64 1), (1, .int .u64 2)]).run Try.prog w = .ok (.agg #[.int .u64 1, .int .u64 2]) w := by kernel_rfl
set_option maxHeartbeats 2000000 in
theorem new_yes (w : World) (side : Int) {own peer : Rm} (ho : own.Ok) (hp : peer.Ok) :
    Calls Try.prog 10 #[.int .i64 side, own.val, peer.val] w fun e w' => ∃ p b, e = .returned (.tuple #[pt p 0, .int .i64 0]) ∧ BkAt w' p b (Bk.zero (side % 2).toNat own peer) ∧ Below w.heap.size w w' ∧ w.heap.size ≤ p ∧ w.heap.size ≤ b := by
  have hm := mkmap
  have h1 : ∀ w, Calls Try.prog 29 #[.agg #[.int .u64 own.all, .int .u64 own.each, .int .i64 own.str]] w fun e w' => e = .returned (.bool true) ∧ Below w.heap.size w w' := fun w => by
    have := maybe_any w own
    rw [Rm.may_ok.2 ho] at this
    exact this
  have h2 : ∀ w, Calls Try.prog 29 #[.agg #[.int .u64 peer.all, .int .u64 peer.each, .int .i64 peer.str]] w fun e w' => e = .returned (.bool true) ∧ Below w.heap.size w w' := fun w => by
    have := maybe_any w peer
    rw [Rm.may_ok.2 hp] at this
    exact this
  have HZ := hid (show w.heap.size + 1 < w.heap.size + 2 by omega)
  have hba := below_box w (.cells #[.int .u64 own.all, .int .u64 own.each, .int .i64 own.str] 24)
  have hbb := below_box (w.alloc (.cells #[.int .u64 own.all, .int .u64 own.each, .int .i64 own.str] 24)) (.cells #[.int .u64 peer.all, .int .u64 peer.each, .int .i64 peer.str] 24)
  have Ra := (Row.new w [.int .u64 own.all, .int .u64 own.each, .int .i64 own.str] 24).kept hbb (by simp)
  have Rb := Row.new (w.alloc (.cells #[.int .u64 own.all, .int .u64 own.each, .int .i64 own.str] 24)) [.int .u64 peer.all, .int .u64 peer.each, .int .i64 peer.str] 24
  have HB := hid (hba.trans (hbb.mono hba.size))
  have hsz : (w.alloc (.cells #[.int .u64 own.all, .int .u64 own.each, .int .i64 own.str] 24)).heap.size = w.heap.size + 1 := by simp
  rw [hsz] at Rb
  unfold Rm.val
  clear hba hbb hsz
  go_enter Try.func10, Try.ntmps10
  go_upto_region 1 with fail
  revert Ra Rb HB
  generalize (w.alloc (.cells #[.int .u64 own.all, .int .u64 own.each, .int .i64 own.str] 24)).alloc (.cells #[.int .u64 peer.all, .int .u64 peer.each, .int .i64 peer.str] 24) = w2
  intro Ra Rb HB
  have RA := hid Ra
  have RB := hid Rb
  have a0 := Ra.cell 0 _ rfl
  have a1 := Ra.cell 1 _ rfl
  have a2 := Ra.cell 2 _ rfl
  clear Ra Rb
  go_upto_region 3 with (first | (go_at_call 29; refine (h1 _).mono ?_; rintro e w3 ⟨rfl, hb3⟩; have RA3 := hid (RA.out.kept hb3 RA.out.lt); have RB3 := hid (RB.out.kept hb3 RB.out.lt); have HB3 := hid (HB.out.trans (hb3.mono HB.out.size)); have b0 := RB3.out.cell 0 _ rfl; have b1 := RB3.out.cell 1 _ rfl; have b2 := RB3.out.cell 2 _ rfl; clear hb3 a0 a1 a2 RA RB HB h1) | (go_at_call 29; refine (h2 _).mono ?_; rintro e w4 ⟨rfl, hb4⟩; have RA4 := hid (RA3.out.kept hb4 RA3.out.lt); have RB4 := hid (RB3.out.kept hb4 RB3.out.lt); have HB4 := hid (HB3.out.trans (hb4.mono HB3.out.size)); clear hb4 b0 b1 b2 RA3 RB3 HB3 h2))
  have a0 := RA4.out.cell 0 _ rfl
  have b0 := RB4.out.cell 0 _ rfl
  have hN := newacc_any w4 own.all peer.all
  obtain hbit | hbit : bits BinOp.and IntKind.i64 side 1 = 0 ∨ bits BinOp.and IntKind.i64 side 1 = 1 := by rw [bits_two]; omega
  · go_upto_region 4 with (go_at_call 30; refine hN.mono ?_; rintro e w5 ⟨rfl, hb5⟩; have RA5 := hid (RA4.out.kept hb5 RA4.out.lt); have RB5 := hid (RB4.out.kept hb5 RB4.out.lt); have HB5 := hid (HB4.out.trans (hb5.mono HB4.out.size)); clear hb5 a0 b0 RA4 RB4 HB4 hN)
    have hbm := below_box w5 (.map #[] 0)
    have hbk := below_box (w5.alloc (.map #[] 0)) (.cells #[.int .i64 0, .int .u64 0, .int .u64 0, .int .i64 0, .int .u64 0, .int .u64 0, .int .i64 0, .int .u64 1, .int .u64 2, .int .i64 0, .int .i64 0, .int .u64 0, .int .u64 peer.all, .int .u64 0, .int .u64 0, .int .u64 own.all, .map (some w5.heap.size)] 46)
    have hs5 : (w5.alloc (.map #[] 0)).heap.size = w5.heap.size + 1 := by simp
    have RP := Row.new (w5.alloc (.map #[] 0)) [.int .i64 0, .int .u64 0, .int .u64 0, .int .i64 0, .int .u64 0, .int .u64 0, .int .i64 0, .int .u64 1, .int .u64 2, .int .i64 0, .int .i64 0, .int .u64 0, .int .u64 peer.all, .int .u64 0, .int .u64 0, .int .u64 own.all, .map (some w5.heap.size)] 46
    have hmo := (World.ownsMap_made w5 Try.prog 22 readP).alloc (.cells #[.int .i64 0, .int .u64 0, .int .u64 0, .int .i64 0, .int .u64 0, .int .u64 0, .int .i64 0, .int .u64 1, .int .u64 2, .int .i64 0, .int .i64 0, .int .u64 0, .int .u64 peer.all, .int .u64 0, .int .u64 0, .int .u64 own.all, .map (some w5.heap.size)] 46)
    have hall := hbm.trans (hbk.mono hbm.size)
    rw [hs5] at RP
    have RA6 := RA5.out.kept hall RA5.out.lt
    have RB6 := RB5.out.kept hall RB5.out.lt
    have HB6 := hid (HB5.out.trans (hall.mono HB5.out.size))
    have HN5 := hid (show w.heap.size ≠ w5.heap.size + 1 ∧ w.heap.size + 1 ≠ w5.heap.size + 1 ∧ w.heap.size ≤ w5.heap.size by have := RA5.out.lt; have := RB5.out.lt; omega)
    clear hbm hbk hs5 hall RA5 RB5 HB5 hm
    revert RP hmo RA6 RB6 HB6
    generalize (w5.alloc (.map #[] 0)).alloc (.cells #[.int .i64 0, .int .u64 0, .int .u64 0, .int .i64 0, .int .u64 0, .int .u64 0, .int .i64 0, .int .u64 1, .int .u64 2, .int .i64 0, .int .i64 0, .int .u64 0, .int .u64 peer.all, .int .u64 0, .int .u64 0, .int .u64 own.all, .map (some w5.heap.size)] 46) = w6
    intro RP hmo RA6 RB6 HB6
    have HRP := hid RP
    have HMO := hid hmo
    have a0 := RA6.cell 0 _ rfl
    have a1 := RA6.cell 1 _ rfl
    have a2 := RA6.cell 2 _ rfl
    have b0 := RB6.cell 0 _ rfl
    have b1 := RB6.cell 1 _ rfl
    have b2 := RB6.cell 2 _ rfl
    have c0 := RP.cell 0 _ rfl
    have c1 := RP.cell 1 _ rfl
    have c2 := RP.cell 2 _ rfl
    have c3 := RP.cell 3 _ rfl
    have c4 := RP.cell 4 _ rfl
    have c5 := RP.cell 5 _ rfl
    have c6 := RP.cell 6 _ rfl
    have f1 := RP.frozen 1
    have f2 := RP.frozen 2
    have f3 := RP.frozen 3
    have f4 := RP.frozen 4
    have f5 := RP.frozen 5
    have f6 := RP.frozen 6
    have hw1 : IntKind.i64.wrap 1 = 1 := by decide
    have hw0 : IntKind.i64.wrap 0 = 0 := by decide
    have hn1 : ¬ w.heap.size = w5.heap.size := by have := HN5.out; omega
    have hn2 : ¬ w5.heap.size = w.heap.size := by have := HN5.out; omega
    clear RP hmo RA6 RB6
    go_region
    go_wp2
    go_ret2
    have hF := (((((((Fr.refl (fun k => k = w5.heap.size + 1) w6).setCell (w5.heap.size + 1) 1 (.int .u64 own.all) (.inl rfl)).setCell (w5.heap.size + 1) 2 (.int .u64 own.each) (.inl rfl)).setCell (w5.heap.size + 1) 3 (.int .i64 own.str) (.inl rfl)).setCell (w5.heap.size + 1) 4 (.int .u64 peer.all) (.inl rfl)).setCell (w5.heap.size + 1) 5 (.int .u64 peer.each) (.inl rfl)).setCell (w5.heap.size + 1) 6 (.int .i64 peer.str) (.inl rfl)).drewN 1
    have hsd : (side % 2).toNat = 0 := by rw [bits_two] at hbit; omega
    refine ⟨w5.heap.size + 1, w5.heap.size, by first | rfl | simp, ⟨?_, ?_, fun x hx => ?_, List.Pairwise.nil, List.Pairwise.nil⟩, ?_, ?_, ?_⟩
    · rw [hsd]
      exact ((((((HRP.out.set 1 (.int .u64 own.all)).set 2 (.int .u64 own.each)).set 3 (.int .i64 own.str)).set 4 (.int .u64 peer.all)).set 5 (.int .u64 peer.each)).set 6 (.int .i64 peer.str)).drew 1
    · exact OwnU.block (U := []) HMO.out (hF.block _ (World.ownsMap.lt HMO.out) (by omega))
    · rw [hsd] at hx
      cases hx
    · exact HB6.out.trans (hF.below (fun x hx => by have := HN5.out; omega) HB6.out.size)
    · have := HN5.out; omega
    · have := HN5.out; omega
  · go_upto_region 4 with (go_at_call 30; refine hN.mono ?_; rintro e w5 ⟨rfl, hb5⟩; have RA5 := hid (RA4.out.kept hb5 RA4.out.lt); have RB5 := hid (RB4.out.kept hb5 RB4.out.lt); have HB5 := hid (HB4.out.trans (hb5.mono HB4.out.size)); clear hb5 a0 b0 RA4 RB4 HB4 hN)
    have hbm := below_box w5 (.map #[] 0)
    have hbk := below_box (w5.alloc (.map #[] 0)) (.cells #[.int .i64 1, .int .u64 0, .int .u64 0, .int .i64 0, .int .u64 0, .int .u64 0, .int .i64 0, .int .u64 1, .int .u64 2, .int .i64 0, .int .i64 0, .int .u64 0, .int .u64 peer.all, .int .u64 0, .int .u64 0, .int .u64 own.all, .map (some w5.heap.size)] 46)
    have hs5 : (w5.alloc (.map #[] 0)).heap.size = w5.heap.size + 1 := by simp
    have RP := Row.new (w5.alloc (.map #[] 0)) [.int .i64 1, .int .u64 0, .int .u64 0, .int .i64 0, .int .u64 0, .int .u64 0, .int .i64 0, .int .u64 1, .int .u64 2, .int .i64 0, .int .i64 0, .int .u64 0, .int .u64 peer.all, .int .u64 0, .int .u64 0, .int .u64 own.all, .map (some w5.heap.size)] 46
    have hmo := (World.ownsMap_made w5 Try.prog 22 readP).alloc (.cells #[.int .i64 1, .int .u64 0, .int .u64 0, .int .i64 0, .int .u64 0, .int .u64 0, .int .i64 0, .int .u64 1, .int .u64 2, .int .i64 0, .int .i64 0, .int .u64 0, .int .u64 peer.all, .int .u64 0, .int .u64 0, .int .u64 own.all, .map (some w5.heap.size)] 46)
    have hall := hbm.trans (hbk.mono hbm.size)
    rw [hs5] at RP
    have RA6 := RA5.out.kept hall RA5.out.lt
    have RB6 := RB5.out.kept hall RB5.out.lt
    have HB6 := hid (HB5.out.trans (hall.mono HB5.out.size))
    have HN5 := hid (show w.heap.size ≠ w5.heap.size + 1 ∧ w.heap.size + 1 ≠ w5.heap.size + 1 ∧ w.heap.size ≤ w5.heap.size by have := RA5.out.lt; have := RB5.out.lt; omega)
    clear hbm hbk hs5 hall RA5 RB5 HB5 hm
    revert RP hmo RA6 RB6 HB6
    generalize (w5.alloc (.map #[] 0)).alloc (.cells #[.int .i64 1, .int .u64 0, .int .u64 0, .int .i64 0, .int .u64 0, .int .u64 0, .int .i64 0, .int .u64 1, .int .u64 2, .int .i64 0, .int .i64 0, .int .u64 0, .int .u64 peer.all, .int .u64 0, .int .u64 0, .int .u64 own.all, .map (some w5.heap.size)] 46) = w6
    intro RP hmo RA6 RB6 HB6
    have HRP := hid RP
    have HMO := hid hmo
    have a0 := RA6.cell 0 _ rfl
    have a1 := RA6.cell 1 _ rfl
    have a2 := RA6.cell 2 _ rfl
    have b0 := RB6.cell 0 _ rfl
    have b1 := RB6.cell 1 _ rfl
    have b2 := RB6.cell 2 _ rfl
    have c0 := RP.cell 0 _ rfl
    have c1 := RP.cell 1 _ rfl
    have c2 := RP.cell 2 _ rfl
    have c3 := RP.cell 3 _ rfl
    have c4 := RP.cell 4 _ rfl
    have c5 := RP.cell 5 _ rfl
    have c6 := RP.cell 6 _ rfl
    have f1 := RP.frozen 1
    have f2 := RP.frozen 2
    have f3 := RP.frozen 3
    have f4 := RP.frozen 4
    have f5 := RP.frozen 5
    have f6 := RP.frozen 6
    have hw1 : IntKind.i64.wrap 1 = 1 := by decide
    have hw0 : IntKind.i64.wrap 0 = 0 := by decide
    have hn1 : ¬ w.heap.size = w5.heap.size := by have := HN5.out; omega
    have hn2 : ¬ w5.heap.size = w.heap.size := by have := HN5.out; omega
    clear RP hmo RA6 RB6
    go_region
    go_wp2
    go_ret2
    have hF := (((((((Fr.refl (fun k => k = w5.heap.size + 1) w6).setCell (w5.heap.size + 1) 4 (.int .u64 own.all) (.inl rfl)).setCell (w5.heap.size + 1) 5 (.int .u64 own.each) (.inl rfl)).setCell (w5.heap.size + 1) 6 (.int .i64 own.str) (.inl rfl)).setCell (w5.heap.size + 1) 1 (.int .u64 peer.all) (.inl rfl)).setCell (w5.heap.size + 1) 2 (.int .u64 peer.each) (.inl rfl)).setCell (w5.heap.size + 1) 3 (.int .i64 peer.str) (.inl rfl)).drewN 1
    have hsd : (side % 2).toNat = 1 := by rw [bits_two] at hbit; omega
    refine ⟨w5.heap.size + 1, w5.heap.size, by first | rfl | simp, ⟨?_, ?_, fun x hx => ?_, List.Pairwise.nil, List.Pairwise.nil⟩, ?_, ?_, ?_⟩
    · rw [hsd]
      exact ((((((HRP.out.set 4 (.int .u64 own.all)).set 5 (.int .u64 own.each)).set 6 (.int .i64 own.str)).set 1 (.int .u64 peer.all)).set 2 (.int .u64 peer.each)).set 3 (.int .i64 peer.str)).drew 1
    · exact OwnU.block (U := []) HMO.out (hF.block _ (World.ownsMap.lt HMO.out) (by omega))
    · rw [hsd] at hx
      cases hx
    · exact HB6.out.trans (hF.below (fun x hx => by have := HN5.out; omega) HB6.out.size)
    · have := HN5.out; omega
    · have := HN5.out; omega
end Go.Proofs.Ytahkbklhngiloaa
