import Derived.Test.YtaklbofbhanjgaaDoorBk0
import Derived.Test.YtaklbofbhanjgaaDoorLaidP
import Derived.Test.YtaklbofbhanjgaaDoorCards
namespace Go.Proofs.YtaklbofbhanjgaaDoor
open Go.ChangeShapes Go.WideShapes Go.ChangeAt Go.RowKit Go.Deep
set_option maxRecDepth 100000
theorem gCrc : Tryd.prog.globalNamed "braid/sums.crcSteps" = some 0 := by kernel_rfl
theorem tCrc : (Tryd.prog.globals[0]?).map (·.type) = some 141 := by kernel_rfl
theorem datumCrc : (Rows.laid_braid_sums_crcSteps : DataW Unit) = Lib.tabData .u32 (crcT.map u) := by kernel_rfl
theorem crctab_of {W : World} {rest : List (String × DataW Unit)} (h : laidMet Tryd.prog ((("braid/sums.crcSteps", Rows.laid_braid_sums_crcSteps) : String × DataW Unit) :: rest) W) : CrcTab W := by
  rw [datumCrc] at h
  have t := Lib.tabIs_of_head gCrc tCrc Tryd.underlying141 Tryd.underlying85 cells85 (by kernel_rfl) h
  intro j hj
  rw [t.cell gCrc j (by simpa using hj)]
  simp [List.getElem?_map, List.getElem?_eq_getElem hj]
theorem cells39' : Tryd.prog.cellsOf 39 = 35 := by kernel_rfl
theorem cells9' : Tryd.prog.cellsOf 9 = 1 := by kernel_rfl
theorem cells3' : Tryd.prog.cellsOf 3 = 1 := by kernel_rfl
theorem cells25' : Tryd.prog.cellsOf 25 = 32 := by kernel_rfl
theorem cells5' : Tryd.prog.cellsOf 5 = 1 := by kernel_rfl
theorem bytes5' : Tryd.prog.bytesOf 5 = 1 := by kernel_rfl
section
variable {H : Type} {enc : TypeId × Value → H} {W : World}
theorem addr_off {a : Addr} (h : a.spot = none) (i : Nat) : a.add i = ⟨a.block, a.off + i, none⟩ := by
  obtain ⟨b, o, s⟩ := a
  simp only at h
  subst h
  exact Addr.add_lit b o i
theorem open_sum {n : Nat} {sp : Nat → Bool} {held : Bool} {cs : List Value} {y : DataW H × List MemPlace} (h : DataW.trod enc Tryd.prog W 0 sp held n 25 cs = some y) : ∃ rt : List (BitVec 8), rt.length = 32 ∧ cs = bcells rt := by
  obtain ⟨xs, k, _, _, hl, hxl, hf⟩ := DataW.trod_array Tryd.underlying25 h
  rw [cells25'] at hl
  have each : ∀ i, i < 32 → ∃ b : BitVec 8, cs[i]? = some (.int .u8 (ub b)) := fun i hi => by
    have g := hf i hi
    rw [cells5', Nat.mul_one] at g
    have hx : i < xs.length := by omega
    rw [List.getElem?_eq_getElem hx] at g
    obtain ⟨z, e, _, wz⟩ := DataW.trod_int Tryd.underlying5 g
    have bd := bounds_u8 wz
    refine ⟨BitVec.ofNat 8 z.toNat, ?_⟩
    rw [← ub_of z bd.1 (by omega)]
    have h1 : ((cs.drop i).take 1)[0]? = some (.int .u8 z) := by rw [e]; rfl
    rw [List.getElem?_take, if_pos (by omega), List.getElem?_drop, Nat.add_zero] at h1
    exact h1
  obtain ⟨f, hf2⟩ := choose_lt each
  refine ⟨(List.range 32).map f, by simp, List.ext_getElem? fun i => ?_⟩
  by_cases hi : i < 32
  · rw [hf2 i hi, bcells_get (by simpa using hi)]
    simp
  · rw [List.getElem?_eq_none (by omega), List.getElem?_eq_none (by simp [bcells_len]; omega)]
theorem open_mf {rc : Reach} {b0 : Nat} {v : Value} {d : DataW H} {ps : List MemPlace} (hval : Value.okWide Tryd.prog W rc b0 39 v) (hd : DataW.Trod enc Tryd.prog W 0 (fun _ => true) true 39 v d ps) :
    ∃ m : Mf, m.rt.length = 32 ∧ v = .agg m.cells.toArray := by
  unfold Value.okWide at hval
  rw [Tryd.underlying39] at hval
  obtain ⟨cs, rfl, _, _⟩ := hval
  obtain ⟨fuel, h⟩ := hd
  obtain ⟨xs, k, _, _, hl, hxl, hf⟩ := DataW.trod_struct Tryd.underlying39 h
  rw [cells39'] at hl
  simp only [Value.cells] at hl hf
  have hx : xs.length = 4 := hxl
  match xs, hx with
  | [y0, y1, y2, y3], _ =>
    have g0 := hf 0 _ rfl
    have g1 := hf 1 _ rfl
    have g2 := hf 2 _ rfl
    have g3 := hf 3 _ rfl
    simp [cells9'] at g0
    simp [cells3'] at g1 g2
    simp [cells25'] at g3
    obtain ⟨s, e0, _, _⟩ := DataW.trod_string Tryd.underlying9 g0
    obtain ⟨sz, e1, _, _⟩ := DataW.trod_int Tryd.underlying3 g1
    obtain ⟨pc, e2, _, _⟩ := DataW.trod_int Tryd.underlying3 g2
    obtain ⟨rt, hr, e3⟩ := open_sum g3
    refine ⟨⟨s, sz, pc, rt⟩, hr, ?_⟩
    have hc : cs.toList = Mf.cells ⟨s, sz, pc, rt⟩ := by
      generalize cs.toList = L at *
      match L, hl with
      | a0 :: a1 :: a2 :: R, hl2 =>
        simp at e0 e1 e2 e3
        have hR : R.length = 32 := by simpa using hl2
        rw [List.take_of_length_le (by omega)] at e3
        rw [e0, e1, e2, e3]
        rfl
    rw [← hc]
end
section
variable {H : Type} {enc : TypeId × Value → H} {W : World}
theorem open_bytes {held : Bool} {fuel len cap : Nat} {a : Option Addr} {x : DataW H × List MemPlace} (h : DataW.trod enc Tryd.prog W 0 (fun _ => true) held fuel 22 [.slice a len cap] = some x) :
    ∃ bs : List (BitVec 8), bs.length = len ∧ BytesAt W a bs ∧ len ≤ cap ∧ (cap = 0 ∨ ∃ elems sp, x.1 = .slice elems sp ∧ elems.length + sp.length = cap ∧ elems.length = len) := by
  rcases open_slice Tryd.underlying22 h with ⟨hcs, _⟩ | ⟨ad, l, c, m, n, D, Pl, hcs, _, hl, hm, hmm, hx, hel⟩
  · simp at hcs
    obtain ⟨rfl, rfl, rfl⟩ := hcs
    exact ⟨[], rfl, fun i h => by simp at h, Nat.le_refl _, .inl rfl⟩
  · simp at hcs
    obtain ⟨rfl, rfl, rfl⟩ := hcs
    simp only [if_true] at hmm
    subst hmm
    have each : ∀ i, i < m → ∃ b : BitVec 8, W.cell? (ad.add i) = some (.int .u8 (ub b)) := by
      intro i hi
      obtain ⟨cs', h1, h2⟩ := hel i hi
      rw [cells5'] at h1
      obtain ⟨_, hlen, hcell⟩ := World.cells?_some h1
      obtain ⟨z, e, _, wz⟩ := DataW.trod_int Tryd.underlying5 h2
      have := hcell 0 (by omega)
      rw [add_add, e] at this
      have bd := bounds_u8 wz
      refine ⟨BitVec.ofNat 8 z.toNat, ?_⟩
      rw [← ub_of z bd.1 (by omega)]
      simpa using this
    obtain ⟨f, hf⟩ := choose_lt each
    refine ⟨(List.range len).map f, by simp, fun i h => ?_, hl, .inr ⟨_, _, by rw [hx], by simp; omega, by simp⟩⟩
    have hi : i < len := by simpa using h
    have h0 := hf 0 (by omega)
    have hs : ad.spot = none := World.cell?_spot (a := ad) (v := .int .u8 (ub (f 0))) (by simpa [Addr.add] using h0)
    have hh := hf i (by omega)
    refine ⟨ad.block, ad.off, ?_, ?_⟩
    · cases ad; simp only at hs; subst hs; rfl
    · rw [addr_off hs] at hh; simpa using hh
end

theorem back_met (os : Os) (args : Array Value) : laidMetH Tryd.prog Rows.piecesBackRow.laid ((World.doorLaid Tryd.prog 400 os).forCall (fun _ _ => 0) ⟨#[], args, []⟩).memory :=
  laidMetH_of_parts3 (fuel := 8) (laidMet_of_run' 8 (by kernel_rfl) (by kernel_rfl)) (by kernel_rfl) (by kernel_rfl)

theorem back_lifted (os : Os) (started : os.Started) (H : Type) (enc : TypeId × Value → H) :
    ReturnsInHanded {} Tryd.checked os 4 .any (fun w args => (Rows.piecesBackSpec.pre enc Tryd.prog Tryd.f4 [] false w args ∧ laidMetH Tryd.prog Rows.piecesBackRow.laid w) ∧ sizedMet enc Tryd.prog Tryd.f4 (OpenSpec.ofChange Rows.piecesBackSpec) false w args)
      (Rows.piecesBackSpec.post enc Tryd.prog Tryd.f4 false true false false) := by
  refine returnsInHanded_of_change_and (C := Tryd.checked) (X := fun w _ => laidMetH Tryd.prog Rows.piecesBackRow.laid w) (fun _ _ _ hh h => h.of_heap hh) own started (by kernel_rfl) Tryd.func4
    (ChangeSpec.witness_shaped (enc := enc) (C := Tryd.checked) (os := os) (X := fun w _ => laidMetH Tryd.prog Rows.piecesBackRow.laid w) false (World.doorLaid Tryd.prog 400 os) #[.agg mfZ.cells.toArray, .slice none 0 0] 8 rfl (World.shaped_of_RefB (by kernel_rfl) (by kernel_rfl)) (by kernel_rfl) (by kernel_rfl) (by kernel_rfl) (back_met os _)) ?_
  intro W base args ds gs before hval0 hW _ hsz0 hL _
  have hsz : (DataW.weightsEach Tryd.prog (Tryd.f4.params.toList ++ Rows.piecesBackSpec.plain.varTypes Tryd.prog) (ds ++ gs)).all (· ≤ reachBytes) = true := hsz0
  clear hsz0
  have hval : ∀ (j : Nat) t v, Tryd.f4.params[j]? = some t → args[j]? = some v → Value.okWide Tryd.prog W .any base t v := hval0
  have hW' := hW
  obtain ⟨p, q, hA0, hV, rfl, _, _⟩ := hW
  have hA : DataW.TrodAll enc Tryd.prog W 0 (fun _ => true) true Tryd.f4.params.toList args.toList ds p := hA0
  rw [Tryd.params4] at hA hval hsz
  obtain ⟨v0, v1, d0, d1, p0, p1, rfl, rfl, rfl, h0, h1⟩ := trodAll_two hA
  obtain ⟨rfl, rfl⟩ := trodVars_none hV
  obtain ⟨m, hr, rfl⟩ := open_mf (hval 0 39 v0 rfl rfl) h0
  obtain ⟨a1, len, cap, rfl⟩ := okWide_slice Tryd.underlying22 (hval 1 22 v1 rfl rfl)
  have k0 := h0
  have k1 := h1
  have lt0 : ∀ x ∈ p0, x.block < W.heap.size := by obtain ⟨m, hm⟩ := k0; exact DataW.trod_lt m _ _ _ hm
  have lt1 : ∀ x ∈ p1, x.block < W.heap.size := by obtain ⟨m, hm⟩ := k1; exact DataW.trod_lt m _ _ _ hm
  obtain ⟨bs, rfl, hB, hlc, hsl⟩ : ∃ bs : List (BitVec 8), bs.length = len ∧ BytesAt W a1 bs ∧ len ≤ cap ∧ (cap = 0 ∨ ∃ elems sp, d1 = .slice elems sp ∧ elems.length + sp.length = cap ∧ elems.length = len) := by
    obtain ⟨fuel, hf⟩ := h1
    exact open_bytes hf
  have hcap : cap ≤ 9223372036854775807 := by
    rcases hsl with h | ⟨elems, sp, rfl, he, _⟩
    · omega
    · have := sized_slice hsz (j := 1) (t := 22) (e := 5) rfl rfl Tryd.underlying22
      rw [bytes5'] at this
      simp only [reachBytes] at this
      omega
  have hL2 : laidMet Tryd.prog Rows.piecesBackRow.laid W := by rw [MakeChecks.laidMetH_plain _ _ _ (by kernel_rfl)] at hL; exact hL
  have hT : CrcTab W := crctab_of hL2
  have hK : KTab W := ktab_of (laidMet.tail hL2)
  have hz : 2 ≤ W.heap.size := World.block_lt_of_cell? W _ (hK 0 (by decide))
  clear hA0 hval0 hL hL2
  refine (back_law hr hB hlc hcap hT hK hz).mono fun e W' ⟨he, bel⟩ => ?_
  subst he
  exact ⟨_, rfl, _, _, _, [], _, [], hW', trodAll_mk1 (shut_bool Tryd.underlying4 _), (trodAll_cons_mk (Below.trod laidOut (by kernel_rfl) (of_decide_eq_true (by kernel_rfl)) k0 bel lt0) (trodAll_cons_mk (Below.trod laidOut (by kernel_rfl) (of_decide_eq_true (by kernel_rfl)) k1 bel lt1) trodAll_mk0)), rfl, bel.frame _, fun h => by cases h⟩

theorem back_row : Rows.PiecesBackSaid :=
  OpenClaim.holds_of_wide 4 Tryd.f4 rfl rfl rfl rfl rfl rfl rfl ⟨rfl, rfl, rfl, rfl, rfl⟩ rfl rfl rfl rfl rfl (by kernel_rfl) Tryd.func4 (by kernel_rfl)
    (of_decide_eq_true (by kernel_rfl)) (by unfold Func.isWrapper; first | (rw [if_pos (by decide +kernel)]; kernel_rfl) | (rw [if_neg (by decide +kernel)]; exact ⟨rfl, rfl⟩))
    (fun os started H enc _ => back_lifted os started H enc)

/-- What Encode gives Decode takes back, and what Decode takes of any bytes is what Encode gives. -/
theorem back_holds : Rows.PiecesBackCardSaid :=
  Claim7.holds_tied_plain_at .later [] [.data, .data] true (true, "05a13913706b7a3cc91084187b8617e7f323f04ccdc6a4ea78841d08f4302594") false
    back_row (fun _ h => by cases h) (by kernel_rfl) (fun _ h => by cases h) piecesBack_row_tie rfl ⟨rfl, rfl⟩ (by kernel_rfl) rfl
    (fun f fn hf hfn => by
      obtain rfl : f = 4 := Option.some.inj ((show Tryd.prog.funcNamed Rows.piecesBackRow.func = some 4 by kernel_rfl).symm.trans hf) |>.symm
      obtain rfl : fn = Tryd.f4 := (Option.some.inj (Tryd.func4.symm.trans hfn)).symm
      exact ⟨by kernel_rfl, fun j t ht => by
        rw [Tryd.params4] at ht
        have hm : t ∈ [39, 22] := by simpa using Array.mem_of_getElem? ht
        have hall : ([39, 22].all fun u => !Tryd.prog.wantsStandIn u) = true := by kernel_rfl
        exact (show Tryd.prog.wantsStandIn t = false by simpa using List.all_eq_true.1 hall t hm)⟩)
    (by kernel_rfl)
#print axioms back_holds
end Go.Proofs.YtaklbofbhanjgaaDoor
