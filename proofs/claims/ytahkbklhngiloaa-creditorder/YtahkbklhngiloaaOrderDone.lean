import Derived.Test.YtahkbklhngiloaaOr2a
import Derived.Test.YtahkbklhngiloaaOr2b
import Derived.Test.YtahkbklhngiloaaCOpen
namespace Go.Proofs.Ytahkbklhngiloaa
open Go.ChangeShapes Go.WideShapes Go.ChangeAt Go.RowKit Go.Deep
set_option maxRecDepth 100000

theorem order_any {w : World} (side : Int) (own peer : Rm) (ho0 : 0 ≤ own.all ∧ own.all ≤ 18446744073709551615) (ho1 : 0 ≤ own.each ∧ own.each ≤ 18446744073709551615) (hp0 : 0 ≤ peer.all ∧ peer.all ≤ 18446744073709551615) (hp1 : 0 ≤ peer.each ∧ peer.each ≤ 18446744073709551615)
    {a : Option Addr} {cap : Nat} {Os : List OpC} (hO : OpcAt w a Os) (hl : Os.length ≤ 4398046511104) :
    Calls Try.prog 3 #[.int .i64 side, own.val, peer.val, .slice a Os.length cap] w fun e w' => e = .returned (.bool true) ∧ Below w.heap.size w w' := by
  obtain hbit | hbit : bits BinOp.and IntKind.i64 side 1 = 0 ∨ bits BinOp.and IntKind.i64 side 1 = 1 := by rw [bits_two]; omega
  · exact order_0 side hbit own peer ho0 ho1 hp0 hp1 hO hl
  · exact order_1 side hbit own peer ho0 ho1 hp0 hp1 hO hl
theorem order_lifted (os : Os) (started : os.Started) (H : Type) (enc : TypeId × Value → H) :
    ReturnsInHanded {} Try.checked os 3 .any (Rows.creditOrderSpec.pre6 enc Try.prog Try.f3 Rows.creditOrderRow.domain false) (Rows.creditOrderSpec.post enc Try.prog Try.f3 false true false false) := by
  refine returnsInHanded_of_change_sized (C := Try.checked) own started (by kernel_rfl) Try.func3
    (ChangeSpec.witness6 (enc := enc) (C := Try.checked) false ⟨#[], #[.int .i64 0, .agg #[.int .u64 0, .int .u64 0, .int .i64 0], .agg #[.int .u64 0, .int .u64 0, .int .i64 0], .slice none 0 0], []⟩ 8 (by kernel_rfl) (by kernel_rfl) (by kernel_rfl) (by kernel_rfl)) ?_
  intro W base args ds gs before hval0 hW _ hsz0 _
  have hsz : (DataW.weightsEach Try.prog (Try.f3.params.toList ++ Rows.creditOrderSpec.plain.varTypes Try.prog) (ds ++ gs)).all (· ≤ reachBytes) = true := hsz0
  clear hsz0
  have hval : ∀ (j : Nat) t v, Try.f3.params[j]? = some t → args[j]? = some v → Value.okWide Try.prog W .any base t v := hval0
  have hW' := hW
  obtain ⟨p, q, hA0, hV, rfl, _, _⟩ := hW
  have hA : DataW.TrodAll enc Try.prog W 0 (fun _ => true) true Try.f3.params.toList args.toList ds p := hA0
  rw [Try.params3] at hA hval hsz
  obtain ⟨v0, v1, v2, v3, d0, d1, d2, d3, p0, p1, p2, p3, rfl, rfl, rfl, h0, h1, h2, h3⟩ := trodAll_four' hA
  obtain ⟨rfl, rfl⟩ := trodVars_none hV
  obtain ⟨x, rfl, rfl, rfl, wx⟩ := open_int Try.underlying3 (hval 0 3 v0 rfl rfl) h0
  obtain ⟨r1, rfl, q10, q11, _⟩ := open_rooms (hval 1 24 v1 rfl rfl) h1
  obtain ⟨r2, rfl, q20, q21, _⟩ := open_rooms (hval 2 24 v2 rfl rfl) h2
  obtain ⟨a3, len, cap, rfl⟩ := okWide_slice Try.underlying25 (hval 3 25 v3 rfl rfl)
  have lt1 : ∀ x ∈ p1, x.block < W.heap.size := by obtain ⟨m, hm⟩ := h1; exact DataW.trod_lt m _ _ _ hm
  have lt2 : ∀ x ∈ p2, x.block < W.heap.size := by obtain ⟨m, hm⟩ := h2; exact DataW.trod_lt m _ _ _ hm
  have lt3 : ∀ x ∈ p3, x.block < W.heap.size := by obtain ⟨m, hm⟩ := h3; exact DataW.trod_lt m _ _ _ hm
  obtain ⟨Os, rfl, hO, hl⟩ : ∃ Os : List OpC, Os.length = len ∧ OpcAt W a3 Os ∧ len ≤ 4398046511104 := by
    obtain ⟨fuel, hf⟩ := h3
    exact open_opcs hf (fun k hk => by simpa using List.all_eq_true.1 hsz k (DataW.weights_mem_each (j := 3) (t := 25) (d := d3) rfl rfl k hk))
  clear hA0 hval0
  refine (order_any x r1 r2 q10 q11 q20 q21 (cap := cap) hO hl).mono fun e W' ⟨he, bel⟩ => ?_
  subst he
  exact ⟨_, rfl, _, _, _, [], _, [], hW', trodAll_mk1 (shut_bool Try.underlying4 _), (trodAll_cons_mk (shut_int Try.underlying3 wx) (trodAll_cons_mk (Below.trod laidOut (by kernel_rfl) (of_decide_eq_true (by kernel_rfl)) h1 bel lt1) (trodAll_cons_mk (Below.trod laidOut (by kernel_rfl) (of_decide_eq_true (by kernel_rfl)) h2 bel lt2) (trodAll_cons_mk (Below.trod laidOut (by kernel_rfl) (of_decide_eq_true (by kernel_rfl)) h3 bel lt3) trodAll_mk0)))), rfl, bel.frame _, fun h => by cases h⟩

theorem order_over : Rows.creditOrderRow.holds Try.pinned (OpenSpec.ofChange Rows.creditOrderSpec) :=
  OpenClaim.holds_of_wide 3 Try.f3 rfl rfl rfl rfl rfl rfl rfl ⟨rfl, rfl, rfl, rfl, rfl⟩ rfl rfl rfl rfl rfl (by kernel_rfl) Try.func3 (by kernel_rfl)
    (of_decide_eq_true (by kernel_rfl)) (by unfold Func.isWrapper; first | (rw [if_pos (by decide +kernel)]; kernel_rfl) | (rw [if_neg (by decide +kernel)]; exact ⟨rfl, rfl⟩))
    (fun os started H enc _ => order_lifted os started H enc)

/-- Streams are opened in the order of their numbers. -/
theorem order_holds : Rows.CreditOrderSaid := order_over
#print axioms order_holds
end Go.Proofs.Ytahkbklhngiloaa
