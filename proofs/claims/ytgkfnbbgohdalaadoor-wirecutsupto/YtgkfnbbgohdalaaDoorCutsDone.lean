import Derived.Test.YtgkfnbbgohdalaaDoorCuts
import Derived.Test.YtgkfnbbgohdalaaDoorOpenF
import Derived.Test.YtgkfnbbgohdalaaDoorCards
import Derived.Deep.DeepHandedRow
namespace Go.Proofs.YtgkfnbbgohdalaaDoor
open Go.ChangeShapes Go.WideShapes Go.ChangeAt Go.RowKit Go.Deep
set_option maxRecDepth 100000

/-- A list has no more members than bulk. -/
theorem bulk_members {H : Type} : ∀ l : List (DataW H), l.length ≤ Rows.uptoBulkAll l
  | [] => Nat.zero_le _
  | d :: r => by
    have h1 : 1 ≤ Rows.uptoBulk d := by
      match d with
      | .lit l => cases l <;> simp [Rows.uptoBulk]
      | .nil | .ptr _ | .slice _ _ | .agg _ | .iface _ _ | .map _ | .held _ => simp [Rows.uptoBulk]
    have h2 := bulk_members r
    simp only [Rows.uptoBulkAll, List.length_cons]
    omega
theorem bulk_slice {H : Type} {n : Nat} {d : DataW H} (h : n = 0 ∨ ∃ elems sp, d = .slice elems sp ∧ elems.length = n) : n ≤ Rows.uptoBulk d := by
  rcases h with rfl | ⟨elems, sp, rfl, rfl⟩
  · exact Nat.zero_le _
  · have := bulk_members elems
    simp only [Rows.uptoBulk]
    omega

theorem cuts_contract (H : Type) (enc : TypeId × Value → H) (W : World) (base : Nat) (args : Array Value) (ds gs : List (DataW H)) (before : List MemPlace)
    (hval : ∀ (j : Nat) t v, Tryd.f7.params[j]? = some t → args[j]? = some v → Value.okWide Tryd.prog W .any base t v)
    (hW : DataW.Whole enc Tryd.prog Tryd.f7.params.toList Rows.wireCutsSpec.vars false W args.toList ds gs before) (hk : Rows.uptoBulkAll (ds ++ gs) ≤ 1048576)
    (hsz : (DataW.weightsEach Tryd.prog (Tryd.f7.params.toList ++ Rows.wireCutsSpec.plain.varTypes Tryd.prog) (ds ++ gs)).all (· ≤ reachBytes) = true) (hL : laidMetH Tryd.prog Rows.wireCutsRow.laid W) :
    Calls Tryd.prog 7 args W fun e W' => ∃ v, e = .returned v ∧ Rows.wireCutsSpec.post enc Tryd.prog Tryd.f7 false true false false W args v W' := by
  have hW' := hW
  obtain ⟨p, q, hA0, hV, rfl, _, _⟩ := hW
  have hA : DataW.TrodAll enc Tryd.prog W 0 (fun _ => true) true Tryd.f7.params.toList args.toList ds p := hA0
  rw [Tryd.params7] at hA hval hsz
  obtain ⟨v0, v1, v2, d0, d1, d2, p0, p1, p2, rfl, rfl, rfl, h0, h1, h2⟩ := trodAll_three hA
  obtain ⟨rfl, rfl⟩ := trodVars_none hV
  have hv0 := hval 0 27 v0 rfl rfl
  unfold Value.okWide at hv0
  rw [Tryd.underlying27] at hv0
  obtain ⟨cs, rfl, _, _⟩ := hv0
  have k0 := h0
  have k1 := h1
  have k2 := h2
  obtain ⟨z, rfl, rfl, rfl, _⟩ := open_int Tryd.underlying3 (hval 1 3 v1 rfl rfl) h1
  obtain ⟨am, lm, cm, rfl⟩ := okWide_slice Tryd.underlying23 (hval 2 23 v2 rfl rfl)
  have lt0 : ∀ x ∈ p0, x.block < W.heap.size := by obtain ⟨m, hm⟩ := k0; exact DataW.trod_lt m _ _ _ hm
  have lt2 : ∀ x ∈ p2, x.block < W.heap.size := by obtain ⟨m, hm⟩ := k2; exact DataW.trod_lt m _ _ _ hm
  obtain ⟨f, da, dc, ra, rc, ma, mc, hF⟩ : ∃ f da dc ra rc ma mc, FrAt W cs.toList f da dc ra rc ma mc := by
    obtain ⟨fuel, hf⟩ := h0
    exact open_frame (fun _ => rfl) hf (fun n hn => by simpa using List.all_eq_true.1 hsz n (DataW.weights_mem_each (j := 0) (t := 27) (d := d0) rfl rfl n hn))
  obtain ⟨ms, am', cm', ev, hM, hx⟩ : ∃ (bs : List (BitVec 8)) (a : Option Addr) (cap : Nat), Value.slice am lm cm = .slice a bs.length cap ∧ BytesAt W a bs ∧ (bs.length = 0 ∨ ∃ elems sp, d2 = .slice elems sp ∧ elems.length = bs.length) := by
    obtain ⟨fuel, hf⟩ := h2
    exact open_bytesV (fun _ => rfl) hf
  have hnil : am = none → lm = 0 ∧ cm = 0 := fun e => by
    obtain ⟨fuel, hf⟩ := h2
    rcases open_slice Tryd.underlying23 hf with ⟨hcs, _⟩ | ⟨ad, l, c, m, n, D, Pl, hcs, _⟩
    · simp [Value.cells] at hcs; exact ⟨hcs.2.1, hcs.2.2⟩
    · simp [Value.cells] at hcs; rw [e] at hcs; cases hcs.1
  injection ev with e1 e2 e3
  subst e1 e3
  have hmb : lm ≤ 1048576 := by
    have h : Rows.uptoBulkAll ([d0, .lit (.int .i64 z), d2] ++ []) ≤ 1048576 := hk
    simp only [List.append_nil, Rows.uptoBulkAll] at h
    have := bulk_slice hx
    omega
  have hL2 : laidMet Tryd.prog Rows.wireCutsRow.laid W := by rw [MakeChecks.laidMetH_plain _ _ _ (by kernel_rfl)] at hL; exact hL
  have hC : CrcTab W := crctab_of hL2
  have hK : SizesTab W := sizestab_of (rest := []) (laidMet.tail hL2)
  have h2s : 2 ≤ W.heap.size := World.block_lt_of_cell? W _ (hC 0 (by decide))
  clear hA0 hL hL2
  have hcl := cuts_law hF hC hK h2s z hM e2.symm hmb hnil
  rw [Array.toArray_toList] at hcl
  refine hcl.mono fun e W' ⟨he, bel⟩ => ?_
  subst he
  exact ⟨_, rfl, _, _, _, [], _, [], hW', trodAll_mk1 (shut_bool Tryd.underlying4 _), (trodAll_cons_mk (Below.trod laidOut (by kernel_rfl) (of_decide_eq_true (by kernel_rfl)) k0 bel lt0) (trodAll_cons_mk (Below.trod laidOut (by kernel_rfl) (of_decide_eq_true (by kernel_rfl)) k1 bel (by simp)) (trodAll_cons_mk (Below.trod laidOut (by kernel_rfl) (of_decide_eq_true (by kernel_rfl)) k2 bel lt2) trodAll_mk0))), rfl, bel.frame _, fun h => by cases h⟩

def cutsArgs : Array Value := #[.agg #[.int .i64 0, .int .i64 0, .int .u64 0, .int .u64 0, .int .u64 0, .slice none 0 0, .slice none 0 0, .int .u32 0, .int .u32 0, .slice none 0 0, .bool false, .int .i64 0], .int .i64 0, .slice none 0 0]
theorem cuts_met (os : Os) : laidMet Tryd.prog Rows.wireCutsUptoRow.laid ((World.doorLaid Tryd.prog 400 os).forCall (fun _ _ => 0) ⟨#[], cutsArgs, []⟩).memory :=
  laidMet_of_run' 8 (by kernel_rfl) (by kernel_rfl)
theorem cuts_reads (os : Os) {H : Type} (enc : TypeId × Value → H) : ∃ places, DataW.whole enc Tryd.prog ((World.doorLaid Tryd.prog 400 os).forCall (fun _ _ => 0) ⟨#[], cutsArgs, []⟩).memory Tryd.f7.params.toList Rows.wireCutsSpec.vars false cutsArgs.toList 8 = some ([.agg [.lit (.int .i64 0), .lit (.int .i64 0), .lit (.int .u64 0), .lit (.int .u64 0), .lit (.int .u64 0), .nil, .nil, .lit (.int .u32 0), .lit (.int .u32 0), .nil, .lit (.bool false), .lit (.int .i64 0)], .lit (.int .i64 0), .nil], [], places) :=
  ⟨[], by kernel_rfl⟩

theorem cuts_lifted (os : Os) (started : os.Started) (H : Type) (enc : TypeId × Value → H) (F : Stop.Interp) :
    ReturnsInHanded {} Tryd.checked os 7 .any ((Rows.OpenSpec.upto Rows.wireCutsSpec).preRow enc Tryd.prog Tryd.f7 Rows.wireCutsUptoRow.domain false Rows.wireCutsUptoRow.laid) (((Rows.OpenSpec.upto Rows.wireCutsSpec).at F).post enc Tryd.prog Tryd.f7 false true false false) := by
  obtain ⟨places, hx⟩ := cuts_reads os enc
  refine returnsInHanded_of_row (C := Tryd.checked) (s := Rows.OpenSpec.upto Rows.wireCutsSpec) own started (by kernel_rfl) Tryd.func7
    (witness_row_at (enc := enc) (C := Tryd.checked) false (World.doorLaid Tryd.prog 400 os) cutsArgs rfl (by kernel_rfl) (by kernel_rfl) (by kernel_rfl)
      (OpenSpec.preRow_of_cond 8 hx (by kernel_rfl) (fun k hk => by cases hk; kernel_rfl) (by kernel_rfl) (cuts_met os))) ?_
  intro W base args ds gs before hval hW _ hcond hsz hL _ _
  exact cuts_contract H enc W base args ds gs before hval hW (of_decide_eq_true (hcond _ rfl)) hsz hL

theorem cuts_row : Rows.WireCutsUptoSaid :=
  OpenClaim.holds_of_cond 7 Tryd.f7 rfl rfl rfl rfl rfl rfl rfl ⟨rfl, rfl, rfl, rfl, rfl⟩ rfl rfl rfl rfl rfl (by kernel_rfl) Tryd.func7 (by kernel_rfl)
    (of_decide_eq_true (by kernel_rfl)) (by unfold Func.isWrapper; first | (rw [if_pos (by decide +kernel)]; kernel_rfl) | (rw [if_neg (by decide +kernel)]; exact ⟨rfl, rfl⟩))
    (fun os started H enc _ F => by rw [OpenClaim.pre_eq_preRow]; exact cuts_lifted os started H enc F)

/-- No shorter beginning of a fit frame's bytes is taken, nor are they with anything behind them. -/
theorem cuts_holds : Rows.WireCutsUptoCardSaid :=
  Claim7.holds_tied_plain_at .later [] [.data, .data] true (true, "e928ee0902ed4286cbc989d5e2443efef0b99cbc2b2b409cff01ca487cab4cbb") false
    cuts_row (fun _ h => by cases h) (by kernel_rfl) (fun _ h => by cases h) wireCutsUpto_row_tie rfl ⟨rfl, rfl⟩ (by kernel_rfl) rfl
    (fun f fn hf hfn => by
      obtain rfl : f = 7 := Option.some.inj ((show Tryd.prog.funcNamed Rows.wireCutsRow.func = some 7 by kernel_rfl).symm.trans hf) |>.symm
      obtain rfl : fn = Tryd.f7 := (Option.some.inj (Tryd.func7.symm.trans hfn)).symm
      exact ⟨by kernel_rfl, fun j t ht => by
        rw [Tryd.params7] at ht
        have hm : t ∈ [27, 3, 23] := by simpa using Array.mem_of_getElem? ht
        have hall : ([27, 3, 23].all fun u => !Tryd.prog.wantsStandIn u) = true := by kernel_rfl
        exact (show Tryd.prog.wantsStandIn t = false by simpa using List.all_eq_true.1 hall t hm)⟩)
    (by kernel_rfl)
#print axioms cuts_holds
end Go.Proofs.YtgkfnbbgohdalaaDoor
