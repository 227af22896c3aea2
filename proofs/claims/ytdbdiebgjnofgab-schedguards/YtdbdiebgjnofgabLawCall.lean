import Derived.Test.YtdbdiebgjnofgabSd9
namespace Go.Proofs.Ytdbdiebgjnofgab
open Go.RowKit Go.Maps Go.Sort
set_option maxRecDepth 100000

set_option maxHeartbeats 1000000 in
theorem lroom_any (w : World) (p : Pv) : Calls Try.prog 10 #[p.val] w fun e w' => e = .returned (.bool p.room) ∧ Below w.heap.size w w' := by
  obtain ⟨u, b, k, s, wi, i, h, off, len, fin, on, held⟩ := p
  simp only [Pv.val, Pv.cells, Pv.room]
  generalize Value.slice on.a on.n on.c = on
  have HB := hid (below_grow (Below.refl w.heap.size w) (.cells #[.bool u, .bool b, .bool k, .int .u64 s, .int .i64 wi, .int .i64 i, .bool h, .int .u64 off, .int .i64 len, .bool fin, on, .bool held] 39))
  cases u with
  | false =>
    go_enter Try.func10, Try.ntmps10
    go_wp2
    go_ret
    exact ⟨rfl, HB.out⟩
  | true =>
    by_cases h1 : 1 ≤ wi
    · by_cases h2 : i < wi
      all_goals
        go_enter Try.func10, Try.ntmps10
        go_wp2
        go_ret
        exact ⟨by simp [h1, h2], HB.out⟩
    · go_enter Try.func10, Try.ntmps10
      go_wp2
      go_ret
      exact ⟨by have h2 : decide (1 ≤ wi) = false := by simpa using h1
                rw [h2]; rfl, HB.out⟩
set_option maxHeartbeats 2000000 in
/-- The law's own way to say that a path is on call. -/
theorem lcall_any {w : World} {V : Vw} (h : VwAt w V) (i : Nat) (hi : i < V.L.length) : Calls Try.prog 9 #[V.val, .int .i64 i] w fun e w' => e = .returned (.bool (V.L[i].call (oth V.L))) ∧ Below w.heap.size w w' := by
  obtain ⟨a, cap, L, has, want, edge, mss⟩ := V
  obtain ⟨hA, hF⟩ := h
  simp only [Vw.val, Vw.cells] at hA hF hi ⊢
  obtain ⟨n, hn⟩ : ∃ n, L.length = n := ⟨_, rfl⟩
  rw [hn] at hF ⊢
  have hb0 : Below w.heap.size w (w.alloc (.cells #[.slice a n cap, .bool has, .int .u64 want.off, .int .i64 want.len, .bool want.fin, .slice want.on.a want.on.n want.on.c, .bool want.held, .int .u64 edge, .int .i64 mss] 28)) := (Below.refl _ _).alloc (Nat.le_refl _) _
  have HB := hid hb0
  obtain ⟨g, o, rfl, q0, q1, -⟩ := (hA.kept hb0).cell hi
  have HA := hid hA
  have HN := hid hn
  have hin : (i : Int) < n := by omega
  have hni : (n : Int) ≤ 1466015503701 := by omega
  obtain ⟨u, hu⟩ : ∃ u, L[i].u = u := ⟨_, rfl⟩
  obtain ⟨b, hbk⟩ : ∃ b, L[i].b = b := ⟨_, rfl⟩
  have HC : Hid (L[i].call (oth L) = (u && !(b && oth L))) := by show _ = _; rw [← hu, ← hbk]; rfl
  obtain ⟨R, hR⟩ : ∃ R, L[i].call (oth L) = R := ⟨_, rfl⟩
  rw [hR] at HC ⊢
  rw [hu] at q0
  rw [hbk] at q1
  clear hA hn hu hbk hR hF
  cases b with
  | false =>
    have HR : Hid (R = u) := by show _ = _; rw [HC.out]; simp
    go_enter Try.func9, Try.ntmps9
    go_wp2
    go_ret
    exact ⟨by rw [HR.out]; rfl, HB.out⟩
  | true =>
    go_enter Try.func9, Try.ntmps9
    go_upto_region 3 with fail
    refine wp_world fun W HW => ?_
    have HB1 : Hid (Below w.heap.size w W) := by show Below _ _ _; rw [HW.out]; exact HB.out
    have HX : Hid (Row W w.heap.size [.slice (some ⟨g, o, none⟩) n cap, .bool has, .int .u64 want.off, .int .i64 want.len, .bool want.fin, .slice want.on.a want.on.n want.on.c, .bool want.held, .int .u64 edge, .int .i64 mss] 28) := by show Row _ _ _ _; rw [HW.out]; exact Row.new _ _ _
    have c0 := HX.out.cell 0 _ rfl
    have HAW := hid (HA.out.kept HB1.out)
    replace q0 : W.cell? ⟨g, o + i * 12, none⟩ = some (.bool u) := by rw [HW.out]; exact q0
    obtain ⟨x, hx⟩ : ∃ x, x = w.heap.size := ⟨_, rfl⟩
    rw [← hx] at c0 ⊢
    clear HW hx q1 HB HA
    go_wp2
    go_loop [5] (fun s5 => ∃ k : Nat, k ≤ n ∧ s5 = .int .i64 k ∧ Hid (∀ t (ht : t < L.length), t < k → L[t].plain = false)) (fun s => n - (intOf s).toNat)
    case atStart => exact ⟨0, Nat.zero_le _, rfl, hid (fun t _ ht => absurd ht (Nat.not_lt_zero _))⟩
    case round =>
      obtain ⟨k, hk, rfl, HI⟩ := hrel
      by_cases hlt : k < n
      · have hkl : k < L.length := by have := HN.out; omega
        have hki : (k : Int) < n := by omega
        obtain ⟨g', o', e', r0, r1, -⟩ := HAW.out.cell hkl
        cases e'
        cases hpu : L[k].u with
        | false =>
          have HI2 : Hid (∀ t (ht : t < L.length), t < k + 1 → L[t].plain = false) := fun t ht h => by
            by_cases e : t = k
            · subst e; simp [Pv.plain, hpu]
            · exact HI.out t ht (by omega)
          rw [hpu] at r0
          clear hpu HI
          go_wp2
          go_round
          case rel => exact ⟨k + 1, hlt, by go_num, HI2⟩
          case measure => simp [intOf]; omega
        | true =>
          cases hpb : L[k].b with
          | true =>
            have HI2 : Hid (∀ t (ht : t < L.length), t < k + 1 → L[t].plain = false) := fun t ht h => by
              by_cases e : t = k
              · subst e; simp [Pv.plain, hpb]
              · exact HI.out t ht (by omega)
            rw [hpu] at r0
            rw [hpb] at r1
            clear hpu hpb HI
            go_wp2
            go_round
            case rel => exact ⟨k + 1, hlt, by go_num, HI2⟩
            case measure => simp [intOf]; omega
          | false =>
            have HR : Hid (R = false) := by
              show _ = _
              have : oth L = true := List.any_eq_true.2 ⟨_, List.getElem_mem hkl, by simp [Pv.plain, hpu, hpb]⟩
              rw [HC.out, this]; cases u <;> rfl
            rw [hpu] at r0
            rw [hpb] at r1
            clear hpu hpb HI
            go_wp2
            go_ret
            exact ⟨by rw [HR.out]; rfl, HB1.out⟩
      · have HR : Hid (R = u) := by
          show _ = _
          have : oth L = false := by
            unfold oth
            rw [List.any_eq_false]
            intro p hp
            obtain ⟨t, ht, rfl⟩ := List.getElem_of_mem hp
            have h1 := HI.out t ht (by have := HN.out; omega)
            rw [h1]; decide
          rw [HC.out, this]; simp
        obtain rfl : k = n := by omega
        clear hlt
        go_wp2
        go_ret
        exact ⟨by rw [HR.out]; rfl, HB1.out⟩
end Go.Proofs.Ytdbdiebgjnofgab
