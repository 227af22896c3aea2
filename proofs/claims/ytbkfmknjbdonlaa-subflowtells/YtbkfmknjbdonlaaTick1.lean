import Derived.Test.YtbkfmknjbdonlaaTick0
import Derived.Test.YtbkfmknjbdonlaaSortIt
namespace Go.Proofs.Ytbkfmknjbdonlaa
open Go.RowKit Go.Maps Go.Sort
set_option maxRecDepth 100000

def Fl.fire (F : Fl) : Fl := { F with U := [], strikes := F.strikes + 1, E := { F.E with b := min (F.E.b + 1) 16 }, line := F.next }
theorem Fl.Ok.fire {F : Fl} (h : F.Ok) : F.fire.Ok := by
  refine ⟨⟨h.est.t0, h.est.t1, h.est.v0, h.est.v1, ?_, ?_, h.est.no⟩, List.Pairwise.nil, fun x hx => by simp [Fl.fire] at hx, h.next0, h.mark0, h.mark1⟩
  · have := h.est.b0; simp only [Fl.fire]; omega
  · simp only [Fl.fire]; omega
theorem Fl.Ok.wake {F : Fl} (h : F.Ok) : F.wake.Ok :=
  ⟨⟨h.est.t0, h.est.t1, h.est.v0, h.est.v1, by simp [Fl.wake], by simp [Fl.wake], h.est.no⟩, h.rise, h.nums, h.next0, h.mark0, h.mark1⟩
set_option maxHeartbeats 2000000 in
theorem tick_fires {w : World} {p b g : Nat} {F : Fl} (h : FlowAt w p b g F) (ok : F.Ok) (he : F.U.length ≠ 0) (hl : F.U.length * 40 ≤ 140737488355328) (hs0 : -4611686018427387904 ≤ F.strikes) (hs1 : F.strikes ≤ 4611686018427387904) (hnx : F.next ≤ 18446744073709551615) (now : Int) (hn1 : now ≤ 18446744073709551615) (h1 : ¬ now < F.mark) (h2 : ¬ now - F.mark < F.E.rto) :
    Calls Try.prog 22 #[.pointer (some ⟨p, 0, none⟩), .int .u64 now] w fun e w' => ∃ v, e = .returned (.tuple #[v, .bool true]) ∧ w'.ownsRow w.heap.size 60 5 v F.U.length (flatI F.U) ∧ FlowAt w' p b g F.fire ∧ Only [p, b, g] w w' := by
  have hlen := len_regrown h.map
  have c0 := cell_regrown (h.row.cell 0 _ rfl)
  have c6 := cell_regrown (h.row.cell 6 _ rfl)
  have K := hid (fun d os => frto_regrown h ok d os)
  have hez : ((F.U.length : Nat) : Int) ≠ 0 := by omega
  have hm0 := ok.mark0
  have H := hid h
  have HO := hid ok
  have HL := hid hl
  have HNX := hid hnx
  have es : wrap64 (F.strikes + 1) = F.strikes + 1 := by unfold wrap64; omega
  generalize hln : ((F.U.length : Nat) : Int) = ln at *
  generalize F.E.rto = rr at *
  clear h ok he hln hl hnx
  have HF : Hid (F.fire = { F with U := [], strikes := F.strikes + 1, E := { F.E with b := min (F.E.b + 1) 16 }, line := F.next }) := rfl
  generalize F.fire = FF at *
  obtain ⟨U, E, rt, st, nx, la, mk, li⟩ := F
  simp only at hlen c0 c6 K hm0 hs0 hs1 h1 h2 es HL HF HNX ⊢
  have hq : (ln == 0) = false := by simpa using hez
  have ew : IntKind.u64.wrap (now - mk) = now - mk := wrapu _ (by omega) (by omega)
  go_enter Try.func22, Try.ntmps22
  go_upto_region 1 with (fail)
  refine wp_region_quiet_below (by kernel_rfl) (by decide +kernel) ?_
  repeat (go_big_quiet_step (first | (go_at_call 21; exact K.out _ _)))
  refine wpQuiet_nil ?_
  intro wa hwa
  have HBA : Hid (Below w.heap.size w wa) := by obtain ⟨⟨dq, osq⟩, rfl⟩ := hwa; exact below_regrown w dq osq
  have HA := hid (FlowAt.kept H.out HBA.out)
  clear hwa hlen c0 c6 K hm0 h1 h2 hez hq ew H
  have RA : Row wa p [.map (some b), .pointer (some ⟨g, 0, none⟩), .int .i64 rt, .int .i64 st, .int .u64 nx, .int .u64 la, .int .u64 mk, .int .u64 li] 87 := HA.out.row
  have c1 := RA.cell 1 _ rfl
  have c3 := RA.cell 3 _ rfl
  have f3 := RA.frozen 3
  have HN := hid HA.out.ne
  have HRB := hid (RA.set 3 (.int .i64 (st + 1)))
  have HMB := hid (OwnU.setCell (p := p) (o := 3) HA.out.map (fun e => HN.out.1 e.symm) (.int .i64 (st + 1)))
  have hBk := back_any (w := wa.setCell ⟨p, 3, none⟩ (.int .i64 (st + 1))) (g := g) (E := E) (Row.setOther HA.out.est ⟨p, 3, none⟩ (fun e => HN.out.2.1 e.symm) _) HO.out.est.b0 HO.out.est.b1
  clear RA
  go_wp2_with (go_at_call 42; refine hBk.mono ?_; rintro e w3 ⟨rfl, hr, ho⟩; have HE3 := hid hr; have R3 := ho.row HRB.out (by simpa using HN.out.2.1); have d0 := R3.cell 0 _ rfl; have d4 := R3.cell 4 _ rfl; have d7 := R3.cell 7 _ rfl; have g7 := R3.frozen 7; have HR3 := hid R3; have HO3 := hid ho; clear R3 hr ho hBk c1 c3 f3)
  have HM3 : Hid (OwnU w3 b U) := OwnU.block HMB.out (HO3.out.block b (World.ownsMap.lt HMB.out) (by simpa using fun e => HN.out.2.2 e.symm))
  have hT := take_none (w := w3.setCell ⟨p, 7, none⟩ (.int .u64 nx)) sortI_any (OwnU.setCell (p := p) (o := 7) HM3.out (fun e => HN.out.1 e.symm) _) HO.out.rise (fun x hx => by have h3 := (HO.out.nums x hx).1; have h4 := (HO.out.nums x hx).2; have h5 := HNX.out; simp only at h3 h4; omega) HL.out 44 (fun _ => true) egEvery (fun W x _ _ => every_any x W)
  rw [filter_every] at hT
  refine hT.mono ?_
  rintro e w4 ⟨v, rfl, hrow, hmap, ho4⟩
  have HT4 := hid (And.intro hrow (And.intro hmap ho4))
  clear hrow hmap ho4 hT
  go_wp2
  go_ret2
  obtain ⟨hrow, hmap, ho4⟩ := HT4.out
  obtain ⟨n1, n2, n3⟩ := HN.out
  have hoA : Only [p, b, g] w w3 := ((Only.of_below HBA.out (Nat.le_refl _)).setCell p 3 _ (.inl (by simp))).trans HO3.out (by simp)
  have hoB : Only [p, b, g] w w4 := (hoA.setCell p 7 _ (.inl (by simp))).trans ho4 (by simp)
  refine ⟨v, rfl, own_mono hrow ?_, ⟨?_, ?_, ?_⟩, hoB⟩
  · have := hoA.size
    simp [World.setCell]
    omega
  · rw [HF.out]
    exact ho4.row (HR3.out.set 7 _) (by simpa using n1)
  · rw [HF.out]
    have e : U.filter (fun _ => !true) = [] := by simp
    rw [e] at hmap
    exact hmap
  · rw [HF.out]
    exact ho4.row (Row.setOther HE3.out ⟨p, 7, none⟩ (fun e => n2 e.symm) _) (by simpa using n3)
end Go.Proofs.Ytbkfmknjbdonlaa
