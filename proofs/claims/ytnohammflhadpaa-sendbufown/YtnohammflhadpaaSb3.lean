import Derived.Test.YtnohammflhadpaaSb2
import Derived.Maps.AppendAt
namespace Go.Proofs.Ytnohammflhadpaa
open Go.RowKit Go.Maps Go.Sort
set_option maxRecDepth 100000

theorem info3 : ∃ i : TypeInfo, Try.prog.info? 3 = some i ∧ i.zero = some (.int .i64 0) ∧ i.size = 1 ∧ i.bytes = 8 := by
  have h : (Try.prog.info? 3).map (fun i => (i.zero, i.size, i.bytes)) = some (some (.int .i64 0), 1, 8) := by kernel_rfl
  cases hq : Try.prog.info? 3 with
  | none => rw [hq] at h; cases h
  | some i => rw [hq] at h; simp at h; exact ⟨i, rfl, h.1, h.2.1, h.2.2⟩
/-- Is a chunk under way on a path? -/
def onB (on : Int) (x : Int) : Bool := bits BinOp.and IntKind.u8 on (bit x) != 0
/-- The paths below i on which it is. -/
def onUp (on : Int) (i : Nat) : List Int := ((List.range i).filter fun (k : Nat) => onB on (k : Int)).map fun (k : Nat) => (k : Int)
theorem onUp_succ (on : Int) (i : Nat) : onUp on (i + 1) = if onB on i = true then onUp on i ++ [(i : Int)] else onUp on i := by
  unfold onUp
  rw [List.range_succ, List.filter_append]
  by_cases h : onB on i = true
  · rw [if_pos h]; simp [h]
  · rw [if_neg h]; simp [h]
theorem onUp_len (on : Int) (i : Nat) : (onUp on i).length ≤ i := by
  unfold onUp
  rw [List.length_map]
  exact Nat.le_trans (List.length_filter_le _ _) (by simp)
abbrev icells (l : List Int) : List Value := l.map fun x => .int .i64 x
abbrev OwnI (w : World) (B : Nat) (v : Value) (l : List Int) : Prop := w.ownsRow B 3 1 v l.length (icells l)
theorem ownI_kept {w w' : World} {B : Nat} {v : Value} {l : List Int} (h : OwnI w B v l) (hb : Below w.heap.size w w') : OwnI w' B v l := by
  refine ⟨h.1, ?_⟩
  rcases h.2 with e | ⟨g, cap, cur, hv, h1, hg, h2⟩
  · exact .inl e
  · exact .inr ⟨g, cap, cur, hv, h1, (hb.block g (Array.getElem?_eq_some_iff.1 hg).1).trans hg, h2⟩
theorem box_range (w : World) (t : TypeId) (l : List Value) : ∀ j u, l[j]? = some u → (w.alloc (.cells l.toArray t)).cell? ((⟨w.heap.size, 0, none⟩ : Addr).add j) = some u := fun j u hj => by
  rw [Addr.add_lit, Nat.zero_add]
  exact (Row.new w l t).cell j u hj
theorem ownI_ge {w : World} {B : Nat} {v : Value} {l : List Int} (h : OwnI w B v l) {g : Nat} (hg : v.ownBlock = some g) : B ≤ g := by
  rcases h.2 with ⟨rfl, _⟩ | ⟨g', cap, cur, rfl, hb, hgg, _⟩
  · simp [Value.ownBlock] at hg
  · simp only [Value.ownBlock, Option.some.injEq] at hg
    subst hg
    exact hb
set_option maxHeartbeats 4000000 in
theorem list_any (w : World) (on : Int) : Calls Try.prog 74 #[.int .u8 on] w fun e w' => ∃ v, e = .returned v ∧ OwnI w' w.heap.size v (onUp on 8) ∧ Below w.heap.size w w' := by
  obtain ⟨i0, hi0, hz0, hz1, hz2⟩ := info3
  go_enter Try.func74, Try.ntmps74
  go_wp2
  go_loopw [3, 5] (fun s3 s5 wr => ∃ i : Nat, i ≤ 8 ∧ s5 = .int .i64 i ∧ Hid (OwnI wr w.heap.size s3 (onUp on i)) ∧ Hid (Below w.heap.size w wr)) (fun _ s _ => 8 - (intOf s).toNat)
  case atStart => exact ⟨0, Nat.zero_le _, rfl, hid ⟨rfl, .inl ⟨rfl, rfl⟩⟩, hid (Below.refl _ _)⟩
  case round =>
    obtain ⟨i, hi, rfl, HO, HB⟩ := hrel
    by_cases hlt : i < 8
    · have hii : (i : Int) < 8 := by omega
      have HOn := fun w => hid (only_any w i)
      have hU := onUp_succ on i
      have hUl := onUp_len on i
      have hdef : onB on i = (bits BinOp.and IntKind.u8 on (bit i) != 0) := rfl
      rw [hdef] at hU
      clear hdef
      generalize bit i = bi at HOn hU
      generalize hbb : bits BinOp.and IntKind.u8 on bi = bb at hU
      by_cases hz : bb = 0
      · have HU : Hid (onUp on (i + 1) = onUp on i) := by show _ = _; rw [hU, if_neg (by simp [hz])]
        subst hz
        clear hU
        go_wp2_with (go_at_call 41; refine (HOn _).out.mono ?_; rintro e w1 ⟨rfl, rfl⟩)
        go_roundw
        case rel => exact ⟨i + 1, hlt, by go_num, (by rw [HU.out]; exact HO), HB⟩
        case measure => simp [intOf]; omega
      · have HU : Hid (onUp on (i + 1) = onUp on i ++ [(i : Int)]) := by show _ = _; rw [hU, if_pos (by simpa using hz)]
        clear hU
        go_upto_region 6 with (go_at_call 41; refine (HOn _).out.mono ?_; rintro e w1 ⟨rfl, rfl⟩)
        go_wp2_with (at_builtin; refine wpList_append_own_at _ rfl _ _ 30 rfl w.heap.size 3 i0 (.int .i64 0) 1 8 Try.underlying30 hi0 hz0 hz1 hz2 rfl (by decide) _ _ _ rfl (World.ownsRow.alloc HO.out _) ⟨w1.heap.size, 0, none⟩ 1 1 [.int .i64 (i : Int)] rfl rfl (box_range w1 3 _) (by simp [Value.oneCell']) (by unfold maxLen; omega) (by omega) (by have := HB.out.size; simp; omega) ?_; intro v5 w5 h5 g5 _ n5; have H5 := hid h5; have HG5 := hid (And.intro g5 n5); clear h5 g5 n5)
        have HB5 : Hid (Below w.heap.size w w5) := by
          have hb1 : Below w.heap.size w (w1.alloc (.cells #[.int .i64 (i : Int)] 3)) := HB.out.alloc HB.out.size _
          have hf : Fr (fun x => w.heap.size ≤ x) (w1.alloc (.cells #[.int .i64 (i : Int)] 3)) w5 := Fr.of_grown HG5.out.1 (fun k hk => .inl (ownI_ge HO.out hk))
          exact hb1.trans (hf.below (fun x hx => hx) hb1.size)
        have HO5 : Hid (OwnI w5 w.heap.size v5 (onUp on (i + 1))) := by
          have h := H5.out
          show w5.ownsRow w.heap.size 3 1 v5 (onUp on (i + 1)).length (icells (onUp on (i + 1)))
          rw [HU.out, List.length_append, icells, List.map_append]
          exact h
        go_roundw
        case rel => exact ⟨i + 1, hlt, by go_num, HO5, HB5⟩
        case measure => simp [intOf]; omega
    · obtain rfl : i = 8 := by omega
      go_wp2
      go_ret
      exact ⟨_, rfl, HO.out, HB.out⟩
end Go.Proofs.Ytnohammflhadpaa
