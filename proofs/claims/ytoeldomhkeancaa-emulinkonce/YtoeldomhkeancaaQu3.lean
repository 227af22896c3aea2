import Derived.Test.YtoeldomhkeancaaQu2
import Derived.BigQuiet
namespace Go.Proofs.Ytoeldomhkeancaa
open Go.RowKit Go.Maps
set_option maxRecDepth 100000

theorem tlate_any (w : World) (a b : Int) : Calls Try.prog 16 #[.int .u64 a, .int .u64 b] w fun e w' => e = .returned (.int .u64 (tm a b)) ∧ w' = w := by
  unfold tm
  go_enter Try.func16, Try.ntmps16
  go_wp2
  go_ret
  exact ⟨rfl, rfl⟩
theorem tm_max {t n : Int} (h : t ≤ 4611686018427387904) : tm t (tm t n) = tm t n := by unfold tm; omega
theorem row_apart {w : World} {p g : Nat} {K : Lk} {c : List Value} {t : TypeId} (hK : LkAt w p K) (h : Row w g c t) (h1 : t ≠ 38) (h2 : t ≠ 87) (h3 : t ≠ 70) : ¬ Foot p K g := by
  rintro (rfl | e | e)
  · exact h1 (cells_type h.at_ hK.row.at_)
  · exact own_row hK.hs.own h (fun e => h2 e.symm) e
  · exact own_row hK.hf.own h (fun e => h3 e.symm) e
/-- All that a Put in a law tells. -/
theorem putR_all {base i p : Nat} {K : Lk} {t : Int} {bs : List (BitVec 8)} {w w' : World} {e : Ending} (h : PutR base i p K t bs w e w') :
    ∃ v, e = .returned v ∧ ∃ K1 K' ok, v = .bool ok ∧ Lw base (i + 1) p K' w' ∧ Below base w w' ∧ Lm p K w K' w' ∧ GoE K t K1 ∧ PutQ K K1 K' bs ok := by
  obtain ⟨K1, K', h1, h2, h3, h4, h5, h6, hc⟩ := h
  rcases hc with h | h | h
  · exact ⟨_, h.1, K1, K', _, rfl, h1, h2, h3, h4, .inl ⟨rfl, h.2⟩⟩
  · exact ⟨_, h.1, K1, K', _, rfl, h1, h2, h3, h4, .inr (.inl ⟨rfl, h.2⟩)⟩
  · exact ⟨_, h.1, K1, K', _, rfl, h1, h2, h3, h4, .inr (.inr ⟨rfl, h.2⟩)⟩
theorem info_53 : (Try.prog.info? 53).map (·.size) = some 4 := by kernel_rfl
/-- 'append' of a list of arrivals to an own row of them. -/
theorem wpAppendR {ops : Array Oper} {rest : List Oper} {o : Oper} {a : Act} {w : World} {Q : Exit → Act → World → Prop} (s x : Operand) (hgd : o.guard = none) (ho : o.op = .call { callee := .builtin .append, args := #[s, x], argTypes := #[42, 42] })
    {base b2 : Nat} {v u : Value} {xs ys : List (It Value)} (hs : a.eval s = v) (hown : w.ownsRow base 55 3 v xs.length (flatI xs)) (hbase : base ≤ w.heap.size)
    (hx : a.eval x = u) (hu : w.ownsRow b2 55 3 u ys.length (flatI ys)) (h1 : ∀ y ∈ ys, y.what.oneCell' = true) (hl : xs.length + ys.length ≤ 3000000000000)
    (h : ∀ w' v', Hid (w'.ownsRow base 55 3 v' (xs ++ ys).length (flatI (xs ++ ys))) → Hid (Fr (fun k => v.ownBlock = some k) w w') → wpList Try.prog ops Q rest (a.put o.dst v') w') : wpList Try.prog ops Q (o :: rest) a w := by
  obtain ⟨i, i1, i2, i3, i4⟩ := inf55
  rw [flatI_app, List.length_append] at h
  obtain ⟨hul, ⟨rfl, hn⟩ | ⟨g, cap, cur, rfl, hb, hg, hnc, hcm, hcs, htk⟩⟩ := hu
  · obtain rfl : ys = [] := List.eq_nil_of_length_eq_zero hn
    refine wpList_append_own_none hgd s x 42 ho base 55 i 3 Try.underlying42 i1 v xs.length (flatI xs) hs hown hx (h w v ?_ (Fr.refl _ _))
    show World.ownsRow _ _ _ _ _ _ _
    simpa [flatI] using hown
  · refine wpList_append_own_at w hgd s x 42 ho base 55 i _ 3 40 Try.underlying42 i1 i2 i3 i4 rfl (by decide) v xs.length (flatI xs) hs hown ⟨g, 0, none⟩ ys.length cap (flatI ys) hx (by rw [flatI_len]) ?_ ?_ (by unfold maxLen; omega) (by omega) hbase ?_
    · intro j y hj
      have hjl := (List.getElem?_eq_some_iff.1 hj).1
      rw [Addr.add_mid, Nat.zero_add, cell_of_row w g _ _ _ _ hg, ← Array.getElem?_toList, ← hj, ← htk, List.getElem?_take, if_pos (by rw [flatI_len] at hjl; exact hjl)]
    · intro y hy
      obtain ⟨z, hz, hy2⟩ := List.mem_flatMap.1 hy
      exact icells_one (h1 z hz) y hy2
    · intro v' w' hown' hgrow _ hat
      exact h w' v' hown' (Fr.of_grown hgrow (fun k e => .inl e))
end Go.Proofs.Ytoeldomhkeancaa
