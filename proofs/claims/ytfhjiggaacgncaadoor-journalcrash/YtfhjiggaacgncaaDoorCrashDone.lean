import Derived.Test.YtfhjiggaacgncaaDoorCr2
import Derived.Test.YtfhjiggaacgncaaDoorLaid2
import Derived.Test.YtfhjiggaacgncaaDoorCards
namespace Go.Proofs.YtfhjiggaacgncaaDoor
open Go.ChangeShapes Go.WideShapes Go.ChangeAt Go.RowKit Go.Deep
set_option maxRecDepth 100000

theorem cells48 : Tryd.prog.cellsOf 48 = 5 := by kernel_rfl
theorem bytes48 : Tryd.prog.bytesOf 48 = 56 := by kernel_rfl
theorem cells3 : Tryd.prog.cellsOf 3 = 1 := by kernel_rfl
theorem cells30 : Tryd.prog.cellsOf 30 = 1 := by kernel_rfl
section
variable {H : Type} {enc : TypeId × Value → H} {W : World}
theorem open_byt {held : Bool} {fuel : Nat} {v : Value} {x : DataW H × List MemPlace} {sp : Nat → Bool} (h : DataW.trod enc Tryd.prog W 0 sp held fuel 30 [v] = some x) :
    ∃ a bs cap, v = .slice a bs.length cap ∧ BytesAt W a bs ∧ (a = none → cap = 0) := by
  rcases open_slice Tryd.underlying30 h with ⟨hcs, _⟩ | ⟨ad, len, cap, m, n, D, Pl, hcs, _, hl, hm, hmm, hx, hel⟩
  · simp at hcs
    exact ⟨none, [], 0, hcs, fun i h => by simp at h, fun _ => rfl⟩
  · simp at hcs
    have hlm : len ≤ m := by rw [hmm]; split <;> omega
    have each : ∀ i, i < m → ∃ b : BitVec 8, W.cell? (ad.add i) = some (.int .u8 (ub b)) := by
      intro i hi
      obtain ⟨cs', h1, h2⟩ := hel i hi
      rw [cells5] at h1
      obtain ⟨_, hlen, hcell⟩ := World.cells?_some h1
      obtain ⟨z, e, _, wz⟩ := DataW.trod_int Tryd.underlying5 h2
      have := hcell 0 (by omega)
      rw [add_add, e] at this
      have bd := bounds_u8 wz
      refine ⟨BitVec.ofNat 8 z.toNat, ?_⟩
      rw [← ub_of z bd.1 (by omega)]
      simpa using this
    obtain ⟨f, hf⟩ := choose_lt each
    refine ⟨some ad, (List.range len).map f, cap, by rw [hcs]; simp, fun i h => ?_, fun e => by cases e⟩
    have hi : i < len := by simpa using h
    have h0 := hf 0 (by omega)
    have hs : ad.spot = none := World.cell?_spot (a := ad) (v := .int .u8 (ub (f 0))) (by simpa [Addr.add] using h0)
    have hh := hf i (by omega)
    refine ⟨ad.block, ad.off, ?_, ?_⟩
    · cases ad; simp only at hs; subst hs; rfl
    · rw [addr_off hs] at hh; simpa using hh
theorem open_opj {n : Nat} {sp : Nat → Bool} {held : Bool} {cs : List Value} {y : DataW H × List MemPlace} (h : DataW.trod enc Tryd.prog W 0 sp held n 48 cs = some y) : ∃ o : OpJ, cs = o.cells ∧ o.Ok W := by
  obtain ⟨xs, k, _, hy, hl, hxl, hf⟩ := DataW.trod_struct Tryd.underlying48 h
  rw [cells48] at hl
  match cs, hl with
  | [v0, v1, v2, v3, v4], _ =>
    have hx : xs.length = 5 := hxl
    match xs, hx with
    | [y0, y1, y2, y3, y4], _ =>
      have g0 := hf 0 _ rfl
      have g1 := hf 1 _ rfl
      have g2 := hf 2 _ rfl
      have g3 := hf 3 _ rfl
      have g4 := hf 4 _ rfl
      simp [cells3, cells5, cells30] at g0 g1 g2 g3 g4
      obtain ⟨x0, e0, _, _⟩ := DataW.trod_int Tryd.underlying3 g0
      obtain ⟨x1, e1, _, _⟩ := DataW.trod_int Tryd.underlying3 g1
      obtain ⟨x2, e2, _, _⟩ := DataW.trod_int Tryd.underlying3 g2
      obtain ⟨x3, e3, _, w3⟩ := DataW.trod_int Tryd.underlying5 g3
      obtain ⟨a, bs, cap, e4, hB, hz⟩ := open_byt g4
      simp at e0 e1 e2 e3
      have bd := bounds_u8 w3
      refine ⟨⟨x0, x1, x2, BitVec.ofNat 8 x3.toNat, a, bs, cap⟩, ?_, hB, hz⟩
      rw [e0, e1, e2, e3, e4]
      unfold OpJ.cells
      simp only
      rw [← ub_of x3 bd.1 (by omega)]
theorem open_opjs {sp : Nat → Bool} {held : Bool} {fuel len cap : Nat} {a : Option Addr} {x : DataW H × List MemPlace} (h : DataW.trod enc Tryd.prog W 0 sp held fuel 43 [.slice a len cap] = some x) (hw : ∀ k ∈ x.1.weights Tryd.prog 43, k ≤ reachBytes) :
    ∃ Os : List OpJ, Os.length = len ∧ JOps W a Os ∧ len ≤ 140737488355328 := by
  rcases open_slice Tryd.underlying43 h with ⟨hcs, _⟩ | ⟨ad, l, c, m, n, D, Pl, hcs, _, hl, hm, hmm, hx, hel⟩
  · simp at hcs
    obtain ⟨rfl, rfl, rfl⟩ := hcs
    exact ⟨[], rfl, fun i h => by simp at h, Nat.zero_le _⟩
  · simp at hcs
    obtain ⟨rfl, rfl, rfl⟩ := hcs
    have hlm : len ≤ m := by rw [hmm]; split <;> omega
    have each : ∀ i, i < len → ∃ o : OpJ, (∀ j v, o.cells[j]? = some v → W.cell? (ad.add (i * 5 + j)) = some v) ∧ o.Ok W := by
      intro i hi
      obtain ⟨cs', h1, h2⟩ := hel i (by omega)
      rw [cells48] at h1
      obtain ⟨_, hlen, hcell⟩ := World.cells?_some h1
      obtain ⟨o, rfl, hb⟩ := open_opj h2
      refine ⟨o, fun j v hv => ?_, hb⟩
      have hj : j < 5 := by have := (List.getElem?_eq_some_iff.1 hv).1; simpa [OpJ.cells] using this
      have := hcell j (by omega)
      rw [add_add, hv] at this
      exact this
    have hinst : Inhabited OpJ := ⟨⟨0, 0, 0, 0#8, none, [], 0⟩⟩
    obtain ⟨f, hf⟩ := choose_lt each
    have hle : len ≤ 140737488355328 := by
      have h1 := hw ((((List.range len).map D).length + _) * Tryd.prog.bytesOf 48) (by
        rw [hx]
        simp only [DataW.weights, Tryd.underlying43]
        exact List.mem_cons_self)
      rw [bytes48] at h1
      simp only [reachBytes, List.length_map, List.length_range] at h1
      omega
    refine ⟨(List.range len).map f, by simp, fun i h => ?_, hle⟩
    have hi : i < len := by simpa using h
    have h0 := (hf 0 (by omega)).1 0 _ rfl
    have hs : ad.spot = none := World.cell?_spot (a := ad) (v := .int .i64 (f 0).kind) (by simpa [Addr.add] using h0)
    have hh := hf i (by omega)
    refine ⟨ad.block, ad.off, ?_, fun j v hv => ?_, ?_⟩
    · cases ad; simp only at hs; subst hs; rfl
    · have h1 := hh.1 j v (by simpa using hv)
      rw [addr_off hs] at h1
      rw [Nat.add_assoc]
      exact h1
    · simpa using hh.2
end
theorem crash_met (os : Os) (args : Array Value) : laidMetH Tryd.prog Rows.journalCrashRow.laid ((World.doorLaid Tryd.prog 400 os).forCall (fun _ _ => 0) ⟨#[], args, []⟩).memory :=
  laidMetH_of_parts3 (fuel := 8) (laidMet_of_run' 8 (by kernel_rfl) (by kernel_rfl)) (by kernel_rfl) (by kernel_rfl)

theorem crash_lifted (os : Os) (started : os.Started) (H : Type) (enc : TypeId × Value → H) :
    ReturnsInHanded {} Tryd.checked os 5 .any (fun w args => (Rows.journalCrashSpec.pre enc Tryd.prog Tryd.f5 [] false w args ∧ laidMetH Tryd.prog Rows.journalCrashRow.laid w) ∧ sizedMet enc Tryd.prog Tryd.f5 (OpenSpec.ofChange Rows.journalCrashSpec) false w args)
      (Rows.journalCrashSpec.post enc Tryd.prog Tryd.f5 false true false false) := by
  refine returnsInHanded_of_change_and (C := Tryd.checked) (X := fun w _ => laidMetH Tryd.prog Rows.journalCrashRow.laid w) (fun _ _ _ hh h => h.of_heap hh) own started (by kernel_rfl) Tryd.func5
    (ChangeSpec.witness_shaped (enc := enc) (C := Tryd.checked) (os := os) (X := fun w _ => laidMetH Tryd.prog Rows.journalCrashRow.laid w) false (World.doorLaid Tryd.prog 400 os) #[.int .i64 0, .slice none 0 0] 8 rfl (World.shaped_of_RefB (by kernel_rfl) (by kernel_rfl)) (by kernel_rfl) (by kernel_rfl) (by kernel_rfl) (crash_met os _)) ?_
  intro W base args ds gs before hval0 hW _ hsz0 hL _
  have hsz : (DataW.weightsEach Tryd.prog (Tryd.f5.params.toList ++ Rows.journalCrashSpec.plain.varTypes Tryd.prog) (ds ++ gs)).all (· ≤ reachBytes) = true := hsz0
  clear hsz0
  have hval : ∀ (j : Nat) t v, Tryd.f5.params[j]? = some t → args[j]? = some v → Value.okWide Tryd.prog W .any base t v := hval0
  have hW' := hW
  obtain ⟨p, q, hA0, hV, rfl, _, _⟩ := hW
  have hA : DataW.TrodAll enc Tryd.prog W 0 (fun _ => true) true Tryd.f5.params.toList args.toList ds p := hA0
  rw [Tryd.params5] at hA hval hsz
  obtain ⟨v0, v1, d0, d1, p0, p1, rfl, rfl, rfl, h0, h1⟩ := trodAll_two hA
  obtain ⟨rfl, rfl⟩ := trodVars_none hV
  have k0 := h0
  obtain ⟨x0, rfl, rfl, rfl, wx0⟩ := open_int Tryd.underlying3 (hval 0 3 v0 rfl rfl) h0
  obtain ⟨a1, len1, cap1, rfl⟩ := okWide_slice Tryd.underlying43 (hval 1 43 v1 rfl rfl)
  have k1 := h1
  have lt1 : ∀ x ∈ p1, x.block < W.heap.size := by obtain ⟨m, hm⟩ := k1; exact DataW.trod_lt m _ _ _ hm
  obtain ⟨Os, rfl, hOp, hl1⟩ : ∃ Os : List OpJ, Os.length = len1 ∧ JOps W a1 Os ∧ len1 ≤ 140737488355328 := by
    obtain ⟨fuel, hf⟩ := h1
    exact open_opjs hf (fun k hk => by simpa using List.all_eq_true.1 hsz k (DataW.weights_mem_each (j := 1) (t := 43) (d := d1) rfl rfl k hk))
  have hL2 : laidMet Tryd.prog Rows.journalCrashRow.laid W := by rw [MakeChecks.laidMetH_plain _ _ _ (by kernel_rfl)] at hL; exact hL
  have hC : CrcTab W := crctab_of (rest := []) hL2
  clear hA0 hval0 hL hL2 hsz
  refine (crash_law x0 cap1 hOp hl1 hC).mono fun e W' ⟨he, bel⟩ => ?_
  subst he
  exact ⟨_, rfl, _, _, _, [], _, [], hW', trodAll_mk1 (shut_bool Tryd.underlying4 _), (trodAll_cons_mk (Below.trod laidOut (by kernel_rfl) (of_decide_eq_true (by kernel_rfl)) k0 bel (by simp)) (trodAll_cons_mk (Below.trod laidOut (by kernel_rfl) (of_decide_eq_true (by kernel_rfl)) k1 bel lt1) trodAll_mk0)), rfl, bel.frame _, fun h => by cases h⟩

theorem crash_row : Rows.JournalCrashSaid :=
  OpenClaim.holds_of_wide 5 Tryd.f5 rfl rfl rfl rfl rfl rfl rfl ⟨rfl, rfl, rfl, rfl, rfl⟩ rfl rfl rfl rfl rfl (by kernel_rfl) Tryd.func5 (by kernel_rfl)
    (of_decide_eq_true (by kernel_rfl)) (by unfold Func.isWrapper; first | (rw [if_pos (by decide +kernel)]; kernel_rfl) | (rw [if_neg (by decide +kernel)]; exact ⟨rfl, rfl⟩))
    (fun os started H enc _ => crash_lifted os started H enc)

/-- Behind every crash a beginning of what was there, holding all that was safe. -/
theorem crash_holds : Rows.JournalCrashCardSaid :=
  Claim7.holds_tied_plain_at .later [] [.data] true (true, "4d387267275968aef42c3c5db9222287f4f40498efdf7808f6d8566232a563b5") false
    crash_row (fun _ h => by cases h) (by kernel_rfl) (fun _ h => by cases h) journalCrash_row_tie rfl ⟨rfl, rfl⟩ (by kernel_rfl) rfl
    (fun f fn hf hfn => by
      obtain rfl : f = 5 := Option.some.inj ((show Tryd.prog.funcNamed Rows.journalCrashRow.func = some 5 by kernel_rfl).symm.trans hf) |>.symm
      obtain rfl : fn = Tryd.f5 := (Option.some.inj (Tryd.func5.symm.trans hfn)).symm
      exact ⟨by kernel_rfl, fun j t ht => by
        rw [Tryd.params5] at ht
        have hm : t ∈ [3, 43] := by simpa using Array.mem_of_getElem? ht
        have hall : ([3, 43].all fun u => !Tryd.prog.wantsStandIn u) = true := by kernel_rfl
        exact (show Tryd.prog.wantsStandIn t = false by simpa using List.all_eq_true.1 hall t hm)⟩)
    (by kernel_rfl)
#print axioms crash_holds
end Go.Proofs.YtfhjiggaacgncaaDoor
