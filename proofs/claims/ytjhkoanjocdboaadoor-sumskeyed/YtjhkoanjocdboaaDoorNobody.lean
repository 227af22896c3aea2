import Derived.Test.YtjhkoanjocdboaaDoorNew
namespace Go.Proofs.YtjhkoanjocdboaaDoor
open Go.RowKit
set_option maxRecDepth 100000

theorem wp_world {code : Code} {Q : Exit → Act → World → Prop} {a : Act} {w : World} (h : ∀ w0, Hid (w0 = w) → code.wp Tryd.prog Q a w0) : code.wp Tryd.prog Q a w := h w rfl
/-- A Hash that neither New nor Fork gave. -/
def NoHash (w : World) (v : Value) : Prop := v = .pointer none ∨ ∃ p, v = .pointer (some ⟨p, 0, none⟩) ∧ Row w p hz 39

set_option maxHeartbeats 400000 in
theorem plain_no {w : World} {v : Value} (h : NoHash w v) : Calls Tryd.prog 25 #[v] w fun e w' => e = .returned (.bool true) ∧ w' = w := by
  rcases h with rfl | ⟨p, rfl, R⟩
  · go_enter Tryd.func25, Tryd.ntmps25
    go_wp2
    go_ret
    exact ⟨rfl, rfl⟩
  · have c0 := R.cell 0 _ (show hz[0]? = some (.bool false) from rfl)
    clear R
    go_enter Tryd.func25, Tryd.ntmps25
    go_wp2
    go_ret
    exact ⟨rfl, rfl⟩
theorem hash_made {w : World} {p : Nat} {c : List (BitVec 8)} (h : HashAt w p c) : w.cell? ⟨p, 0, none⟩ = some (.bool true) := by
  obtain ⟨s, l, _, R⟩ := h
  exact R.cell 0 _ rfl
set_option maxHeartbeats 400000 in
theorem plain_yes {w : World} {p : Nat} {c : List (BitVec 8)} (h : HashAt w p c) : Calls Tryd.prog 25 #[.pointer (some ⟨p, 0, none⟩)] w fun e w' => e = .returned (.bool false) ∧ w' = w := by
  have c0 := hash_made h
  clear h
  go_enter Tryd.func25, Tryd.ntmps25
  go_wp2
  go_ret
  exact ⟨rfl, rfl⟩

set_option maxHeartbeats 400000 in
theorem write_any {w : World} {p : Nat} {c : List (BitVec 8)} (hH : HashAt w p c) (hp : 2 ≤ p) (hK : KTab w) {a : Option Addr} {cap : Nat} {bs : List (BitVec 8)} (hB : BytesOff p w a bs) (hlen : bs.length ≤ cap) (hcap : cap ≤ 281474976710656) :
    Calls Tryd.prog 16 #[.pointer (some ⟨p, 0, none⟩), .slice a bs.length cap] w fun e w' => e = .returned (.tuple #[]) ∧ HashAt w' p (c ++ bs) ∧ Only p w w' := by
  have HP : Hid _ := plain_yes hH
  have HT : Hid _ := take_any hH hp hK hB hlen hcap
  clear hH hK hB hlen hcap
  go_enter Tryd.func16, Tryd.ntmps16
  go_wp2_with (first
    | (go_at_call 25; refine Calls.mono HP.out ?_; rintro e w' ⟨rfl, rfl⟩)
    | (go_at_call 26; refine Calls.mono HT.out ?_; rintro e w' ⟨rfl, hh, ho⟩; have HH : Hid _ := hh; have HO : Hid _ := ho; clear hh ho))
  go_end0
  exact ⟨rfl, HH.out, HO.out⟩
set_option maxHeartbeats 400000 in
theorem write_no {w : World} {v : Value} (h : NoHash w v) (x : Value) : Calls Tryd.prog 16 #[v, x] w fun e w' => e = .returned (.tuple #[]) ∧ w' = w := by
  have HP : Hid _ := plain_no h
  clear h
  go_enter Tryd.func16, Tryd.ntmps16
  go_wp2_with (first | (go_at_call 25; refine Calls.mono HP.out ?_; rintro e w' ⟨rfl, rfl⟩))
  refine bodyPost_ret (results_none Tryd.results16 _ _ _) rfl ?_
  exact ⟨rfl, rfl⟩
set_option maxHeartbeats 400000 in
theorem size_any {w : World} {p : Nat} {c : List (BitVec 8)} (h : HashAt w p c) : Calls Tryd.prog 17 #[.pointer (some ⟨p, 0, none⟩)] w fun e w' => e = .returned (.int .u64 ((c.length % 18446744073709551616 : Nat) : Int)) ∧ w' = w := by
  have HP : Hid _ := plain_yes h
  obtain ⟨s, l, hT, R⟩ := h
  have c0 := R.cell 73 _ (hcells_size s l _ hT.len)
  clear hT R
  generalize c.length % 18446744073709551616 = N at *
  go_enter Tryd.func17, Tryd.ntmps17
  go_wp2_with (first | (go_at_call 25; refine Calls.mono HP.out ?_; rintro e w' ⟨rfl, rfl⟩))
  go_ret
  exact ⟨rfl, rfl⟩
set_option maxHeartbeats 400000 in
theorem size_no {w : World} {v : Value} (h : NoHash w v) : Calls Tryd.prog 17 #[v] w fun e w' => e = .returned (.int .u64 0) ∧ w' = w := by
  have HP : Hid _ := plain_no h
  clear h
  go_enter Tryd.func17, Tryd.ntmps17
  go_wp2_with (first | (go_at_call 25; refine Calls.mono HP.out ?_; rintro e w' ⟨rfl, rfl⟩))
  go_ret
  exact ⟨rfl, rfl⟩
set_option maxHeartbeats 400000 in
theorem fork_no {w : World} {v : Value} (h : NoHash w v) : Calls Tryd.prog 19 #[v] w fun e w' => e = .returned (.pointer none) ∧ w' = w := by
  have HP : Hid _ := plain_no h
  clear h
  go_enter Tryd.func19, Tryd.ntmps19
  go_wp2_with (first | (go_at_call 25; refine Calls.mono HP.out ?_; rintro e w' ⟨rfl, rfl⟩))
  go_ret
  exact ⟨rfl, rfl⟩
def z32 : List (BitVec 8) := List.replicate 32 0#8
theorem zero44 : (Tryd.prog.info? 44).map (fun i => (i.zero, i.size)) = some (some (.agg (bcells z32).toArray), 32) := by kernel_rfl
theorem z44 (w : World) : (zeroValue 44).run Tryd.prog w = .ok (.agg (bcells z32).toArray) w := (zero_of_info zero44).1 w
theorem i44 : (Tryd.prog.info? 44).map (·.size) = some 32 := (zero_of_info zero44).2
theorem NoHash.kept {w w' : World} {v : Value} (h : NoHash w v) (hb : Below w.heap.size w w') : NoHash w' v := by
  rcases h with h | ⟨p, h, R⟩
  · exact .inl h
  · exact .inr ⟨p, h, R.kept hb R.lt⟩
set_option maxHeartbeats 400000 in
theorem sum_no {w : World} {v : Value} (h : NoHash w v) : Calls Tryd.prog 18 #[v] w fun e w' => e = .returned (.agg (bcells z32).toArray) ∧ Below w.heap.size w w' := by
  have H : Hid _ := h
  clear h
  go_enter Tryd.func18, Tryd.ntmps18
  go_upto_region 1 with (fail)
  refine wp_world fun wa HW => ?_
  have HR : Hid (Row wa w.heap.size (bcells z32) 44) := by show Row wa _ _ _; rw [HW.out]; exact Row.new' _ _ _ _ _ rfl rfl
  have HB : Hid (Below w.heap.size w wa) := by show Below _ _ _; rw [HW.out]; exact (Below.refl _ _).alloc (Nat.le_refl _) _
  have HP : Hid _ := plain_no (NoHash.kept H.out HB.out)
  clear HW H
  go_wp2_with (first
    | (go_at_call 25; refine Calls.mono HP.out ?_; rintro e w' ⟨rfl, rfl⟩)
    | (show wpList _ _ _ (Oper.mk none (.store 44 (.tmp 2) (.tmp 5)) _ _ _ _ :: _) _ _; refine HR.out.wpStore' 44 (.tmp 2) (.tmp 5) (bcells z32) rfl rfl rfl rfl rfl (bcells_one _) i44 ?_; intro wx HX))
  have R : Row wx w.heap.size (bcells z32) 44 := by rw [HX.out]; exact HR.out.row _
  refine bodyPost_ret (v := .agg (bcells z32).toArray) (R.result Tryd.results18 _ rfl _ Tryd.underlying44 rfl i44) rfl ⟨rfl, ?_⟩
  rw [HX.out]
  exact Go.below_setRow HB.out (Nat.le_refl _) _
end Go.Proofs.YtjhkoanjocdboaaDoor
