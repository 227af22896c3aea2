import Derived.Test.YtkhogbnoincbeabPu0
namespace Go.Proofs.Ytkhogbnoincbeab
open Go.RowKit Go.Maps Go.Sort
set_option maxRecDepth 100000

/-- One byte behind an own row. -/
theorem bytes_one (w : World) (x : Value) (y : BitVec 8) (hx : x = .int .u8 (ub y)) : BytesAt (w.alloc (.cells #[x] 5)) (some ⟨w.heap.size, 0, none⟩) [y] := by
  subst hx
  exact (Row.new' w #[.int .u8 (ub y)] (bcells [y]) 5 _ rfl rfl).bytes
/-- What an own row has grown to; nothing but its block has turned. -/
def Grew (base : Nat) (w : World) (v : Value) (l : List (BitVec 8)) (w' : World) (v' : Value) : Prop := OwnBy w' base v' l ∧ Fr (fun x => v.ownBlock = some x) w w' ∧ (v'.ownBlock = v.ownBlock ∨ ∃ x, v'.ownBlock = some x ∧ w.heap.size ≤ x)
theorem Grew.refl {base : Nat} {w : World} {v : Value} {l : List (BitVec 8)} (h : OwnBy w base v l) : Grew base w v l w v := ⟨h, Fr.refl _ _, .inl rfl⟩
theorem Grew.step {base : Nat} {w w1 w2 w3 : World} {v v1 v2 : Value} {l l2 : List (BitVec 8)} (h : Grew base w v l w1 v1) (hb : Below w1.heap.size w1 w2) (hO : OwnBy w3 base v2 l2) (hg : w2.grownBy w3 v1.ownBlock ∧ (v2.ownBlock = v1.ownBlock ∨ v2.ownBlock = some w2.heap.size)) : Grew base w v l2 w3 v2 := by
  obtain ⟨_, h2, h3⟩ := h
  refine ⟨hO, ?_, ?_⟩
  · have f1 : Fr (fun x => v.ownBlock = some x) w w2 := h2.trans (Fr.of_below hb (Nat.le_refl _) (S := fun _ => False)) (fun x hx => hx.elim)
    refine f1.trans (Fr.of_grown hg.1 (fun k hk => .inl hk) (S := fun x => v1.ownBlock = some x)) (fun x hx => ?_)
    rcases h3 with e | ⟨y, e, hy⟩
    · rw [e] at hx; exact .inl hx
    · rw [e] at hx; simp at hx; subst hx; exact .inr hy
  · rcases hg.2 with e | e
    · rw [e]; exact h3
    · exact .inr ⟨_, e, Nat.le_trans h2.size hb.size⟩
theorem below_new (w : World) (o : Obj) : Below w.heap.size w (w.alloc o) := (Below.refl _ _).alloc (Nat.le_refl _) _
set_option maxHeartbeats 1000000 in
theorem number_app (w : World) (base : Nat) (v : Value) (old : List (BitVec 8)) (n : Int) (hO : OwnBy w base v old) (hbase : base ≤ w.heap.size) (h0 : 0 ≤ n) (h1 : n ≤ 18446744073709551615) (hl : old.length + (numB n.toNat).length ≤ 140737488355328) :
    Calls Try.prog 51 #[v, .int .u64 n] w fun e w' => ∃ v', e = .returned v' ∧ Grew base w v (old ++ numB n.toNat) w' v' := by
  have HO := hid hO
  have HL := hid hl
  have HG := hid hbase
  obtain ⟨a, cap, rfl, -⟩ := ownBy_shape hO
  clear hO hl hbase
  go_enter Try.func51, Try.ntmps51
  go_wp2
  go_loopw [0, 1] (fun t u wr => ∃ (m : Int) (cur : List (BitVec 8)), 0 ≤ m ∧ m ≤ 18446744073709551615 ∧ u = .int .u64 m ∧ Hid (Grew base w (.slice a old.length cap) cur wr t) ∧ Hid (cur ++ numB m.toNat = old ++ numB n.toNat)) (fun _ u _ => (intOf u).toNat)
  case atStart => exact ⟨n, old, h0, h1, rfl, Grew.refl HO.out, rfl⟩
  case round =>
    obtain ⟨m, cur, hm0, hm1, rfl, HR, HE⟩ := hrel
    have hcl : cur.length + (numB m.toNat).length ≤ 140737488355328 := by
      have := congrArg List.length HE.out
      rw [List.length_append, List.length_append] at this
      have := HL.out
      omega
    have hpos := numB_pos m.toNat
    have HCL := hid (show cur.length + 1 ≤ 140737488355328 by omega)
    clear hcl hpos
    have HW := hid (Nat.le_trans HG.out HR.out.2.1.size)
    by_cases hlt : 127 < m
    · have hx := ub_more m hm0
      have HY := hid (numB_big (n := m.toNat) (by omega))
      generalize BitVec.ofNat 8 (m.toNat % 128 + 128) = y at *
      go_wp2_with (at_builtin; refine wpAppendA (.tmp 9) (.tmp 13) rfl rfl (base := base) rfl (own_below HR.out.1 (below_new wr _)) (by have := HW.out; simp; omega) rfl (fun e => by cases e) (bs := [y]) rfl (bytes_one wr _ y rfl) HCL.out ?_; intro w5 v5 h5 g5)
      go_roundw
      case rel =>
        refine ⟨m / 128, cur ++ [y], by omega, by omega, rfl, HR.out.step (below_new wr _) (by have := h5.out; rw [← List.length_singleton (a := y), ← List.length_append] at this; exact this) g5.out, ?_⟩
        show _ = _
        rw [← HE.out, HY.out, List.append_assoc, show (m / 128).toNat = m.toNat / 128 by omega]
        rfl
      case measure => simp [intOf]; omega
    · have HX : Hid (m = ub (BitVec.ofNat 8 m.toNat)) := by
        have := ub_low m hm0 (by omega)
        show _ = _
        omega
      have HY := hid (numB_small (n := m.toNat) (by omega))
      generalize BitVec.ofNat 8 m.toNat = y at *
      go_wp2_with (at_builtin; refine wpAppendA (.tmp 15) (.tmp 18) rfl rfl (base := base) rfl (own_below HR.out.1 (below_new wr _)) (by have := HW.out; simp; omega) rfl (fun e => by cases e) (bs := [y]) rfl (bytes_one wr _ y (by rw [← HX.out])) HCL.out ?_; intro w5 v5 h5 g5)
      go_ret
      refine ⟨v5, rfl, ?_⟩
      rw [← HE.out, HY.out]
      exact HR.out.step (below_new wr _) (by have := h5.out; rw [← List.length_singleton (a := y), ← List.length_append] at this; exact this) g5.out
theorem ub_add (n : Int) (h0 : 0 ≤ n) : n % 128 + 128 = ub (BitVec.ofNat 8 (n.toNat % 128 + 128)) := by
  rw [ub, BitVec.toNat_ofNat]; omega
set_option maxHeartbeats 1000000 in
theorem long_any (w : World) (n : Int) (h0 : 0 ≤ n) (h1 : n ≤ 18446744073709551615) :
    Calls Try.prog 60 #[.int .u64 n] w fun e w' => ∃ v', e = .returned v' ∧ Grew w.heap.size w (.slice none 0 0) (numB n.toNat) w' v' := by
  have HL : Hid ((numB n.toNat).length ≤ 10) := numB_len 9 _ (by omega)
  go_enter Try.func60, Try.ntmps60
  go_wp2
  go_loopw [0, 3] (fun u t wr => ∃ (m : Int) (cur : List (BitVec 8)), 0 ≤ m ∧ m ≤ 18446744073709551615 ∧ u = .int .u64 m ∧ Hid (Grew w.heap.size w (.slice none 0 0) cur wr t) ∧ Hid (cur ++ numB m.toNat = numB n.toNat)) (fun u _ _ => (intOf u).toNat)
  case atStart => exact ⟨n, [], h0, h1, rfl, Grew.refl ⟨rfl, .inl ⟨rfl, rfl⟩⟩, rfl⟩
  case round =>
    obtain ⟨m, cur, hm0, hm1, rfl, HR, HE⟩ := hrel
    have hcl : cur.length + (numB m.toNat).length ≤ 10 := by
      have := congrArg List.length HE.out
      rw [List.length_append] at this
      have := HL.out
      omega
    have hpos := numB_pos m.toNat
    have HCL := hid (show cur.length + 1 ≤ 140737488355328 by omega)
    clear hcl hpos
    have HW := hid (HR.out.2.1.size)
    by_cases hlt : 128 ≤ m
    · have hx := ub_add m hm0
      have HY := hid (numB_big (n := m.toNat) (by omega))
      generalize BitVec.ofNat 8 (m.toNat % 128 + 128) = y at *
      go_wp2_with (at_builtin; refine wpAppendA (.tmp 6) (.tmp 11) rfl rfl (base := w.heap.size) rfl (own_below HR.out.1 (below_new wr _)) (by have := HW.out; simp; omega) rfl (fun e => by cases e) (bs := [y]) rfl (bytes_one wr _ y rfl) HCL.out ?_; intro w5 v5 h5 g5)
      go_roundw
      case rel =>
        refine ⟨m / 128, cur ++ [y], by omega, by omega, rfl, HR.out.step (below_new wr _) (by have := h5.out; rw [← List.length_singleton (a := y), ← List.length_append] at this; exact this) g5.out, ?_⟩
        show _ = _
        rw [← HE.out, HY.out, List.append_assoc, show (m / 128).toNat = m.toNat / 128 by omega]
        rfl
      case measure => simp [intOf]; omega
    · have HX : Hid (m = ub (BitVec.ofNat 8 m.toNat)) := by
        have := ub_low m hm0 (by omega)
        show _ = _
        omega
      have HY := hid (numB_small (n := m.toNat) (by omega))
      generalize BitVec.ofNat 8 m.toNat = y at *
      go_wp2_with (at_builtin; refine wpAppendA (.tmp 15) (.tmp 18) rfl rfl (base := w.heap.size) rfl (own_below HR.out.1 (below_new wr _)) (by have := HW.out; simp; omega) rfl (fun e => by cases e) (bs := [y]) rfl (bytes_one wr _ y (by rw [← HX.out])) HCL.out ?_; intro w5 v5 h5 g5)
      go_ret
      refine ⟨v5, rfl, ?_⟩
      rw [← HE.out, HY.out]
      exact HR.out.step (below_new wr _) (by have := h5.out; rw [← List.length_singleton (a := y), ← List.length_append] at this; exact this) g5.out
end Go.Proofs.Ytkhogbnoincbeab
