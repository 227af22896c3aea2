import Derived.Test.YtjbjaklbckhodabSort1
namespace Go.Proofs.Ytjbjaklbckhodab
open Go.RowKit
set_option maxRecDepth 100000

theorem rcells_pair {w : World} {a : Option Addr} {L : List Rg} (C : Cells w a L) (k : Nat) (hk : k < L.length) : ∃ ad : Addr, a = some ad ∧ w.cell? (ad.add (k * 2)) = some (.int .u64 L[k].1) ∧ w.cell? (ad.add (k * 2 + 1)) = some (.int .u64 L[k].2) := by
  obtain ⟨ad, e, hc⟩ := C.row (fun e => by rw [e] at hk; simp at hk)
  exact ⟨ad, e, hc _ _ (flat_get L k hk).1, hc _ _ (flat_get L k hk).2⟩

theorem add_next (ad : Addr) (k : Nat) : ad.add (k * 2 + 1) = ⟨(ad.add (k * 2)).block, (ad.add (k * 2)).off + 1, none⟩ := by
  have h : (ad.add (k * 2)).block = ad.block ∧ (ad.add (k * 2)).off = ad.off + k * 2 := by
    unfold Addr.add
    split
    · rename_i h; rw [h]; exact ⟨rfl, rfl⟩
    · exact ⟨rfl, rfl⟩
  rw [h.1, h.2, Addr.add_succ', Nat.add_assoc]

set_option maxHeartbeats 2000000 in
theorem sorted_said : SortedSaid := by
  intro w a cap L C hf hw
  have HC := hid C
  clear C hw
  obtain ⟨i0, hi, hz0, hz1, hz2⟩ := info_parts info29'
  go_enter Try.func26, Try.ntmps26
  go_wp2_with fail
  go_loopw [3, 9] (fun v s9 wr => ∃ (k : Nat) (c : List Rg), k ≤ L.length ∧ s9 = .int .i64 k ∧ SrtAt w wr v L c k) (fun _ s _ => L.length - (intOf s).toNat)
  case atStart => exact ⟨0, [], Nat.zero_le _, rfl, by simp, List.Pairwise.nil, World.ownsRow_nil _ _ _ _, Below.refl _ _⟩
  case round =>
    obtain ⟨k, c, hk, rfl, hS⟩ := hrel
    have HS := hid hS
    clear hS
    by_cases hlt : k < L.length
    · have hki : (k : Int) < (L.length : Int) := by omega
      obtain ⟨ad, rfl, p1, p2⟩ := rcells_pair HC.out k hlt
      have e1 := cell_kept HS.out.bel p1
      have e2 := cell_kept HS.out.bel p2
      have HSK := hid (fun (he : ¬ L[k].1 < L[k].2) (wx : World) (hb : Below wr.heap.size wr wx) => HS.out.skip hlt he hb)
      have HSN := hid (fun (he : L[k].1 < L[k].2) => HS.out.snoc hlt he)
      clear p1 p2
      generalize L[k] = r at *
      obtain ⟨rl, rh⟩ := r
      simp only at e1 e2
      rw [add_next] at e2
      have hcl := HS.out.len
      obtain ⟨v, hv⟩ : ∃ v, v = u3 := ⟨_, rfl⟩
      subst hv
      have hE := rempty_any rl rh (wr.alloc (.cells #[.int .u64 rl, .int .u64 rh] 25))
      go_wp2_with fail
      refine hE.mono ?_
      rintro e w1 ⟨rfl, hw1⟩
      have HB1 : Hid (Below wr.heap.size wr w1) := by rw [hw1]; exact below_grow (below_box _ _) _
      have b0 : w1.cell? ⟨wr.heap.size, 0, none⟩ = some (.int .u64 rl) := by rw [hw1]; exact cell_kept (below_box _ _) (box_cells wr _ _).1
      have b1 : w1.cell? ⟨wr.heap.size, 1, none⟩ = some (.int .u64 rh) := by rw [hw1]; exact cell_kept (below_box _ _) (box_cells wr _ _).2
      have hsz : wr.heap.size < w1.heap.size := by rw [hw1]; simp; omega
      clear hw1 hE e1 e2
      by_cases he : rl < rh
      · have hd : decide (rh ≤ rl) = false := decide_eq_false (by omega)
        rw [hd]
        have HP := hid (HSN.out he)
        have HS1 : Hid (SrtAt w w1 v L c k) := ⟨HS.out.perm, HS.out.rises, own_below HS.out.row HB1.out, HS.out.bel.trans (HB1.out.mono HS.out.bel.size)⟩
        have HVB : Hid (v.ownBlock ≠ some wr.heap.size) := fun e => by have := (HS.out.row.lt _ e).2; omega
        obtain ⟨av, cv, ev, _⟩ := owns_shape HS.out.row
        subst ev
        obtain ⟨b, hb⟩ : ∃ b, b = wr.heap.size := ⟨_, rfl⟩
        rw [← hb] at b0 b1 hsz HVB ⊢
        clear HS HSK HSN HB1 hb hd hki
        have HL := hid (And.intro b0 b1)
        go_upto_region 8 with (at_builtin; refine wpList_append_own_at _ rfl _ _ 22 rfl w.heap.size 25 i0 (.agg #[.int .u64 0, .int .u64 0]) 2 16 Try.underlying22 hi hz0 hz1 hz2 rfl (by decide) (.slice av c.length cv) c.length (flat c) rfl (World.ownsRow.alloc HS1.out.row _) ⟨w1.heap.size, 0, none⟩ 1 1 [.int .u64 rl, .int .u64 rh] rfl rfl (box_range w1 25 _) (pair_one rl rh) (by unfold maxLen; omega) (by omega) (by have := HS1.out.bel.size; simp; omega) ?_)
        intro v2 w2 ho2 hg2 _ hat2
        have HS2 : SrtAt w (w1.alloc (.cells #[.int .u64 rl, .int .u64 rh] 25)) (.slice av c.length cv) L c k := ⟨HS1.out.perm, HS1.out.rises, own_below HS1.out.row (below_box _ _), HS1.out.bel.trans ((below_box _ _).mono HS1.out.bel.size)⟩
        obtain ⟨g, c2, rfl, hI⟩ := InsAt.start (r := (rl, rh)) HS2 (b := b) (by simp; omega) HVB.out (cell_kept (below_box _ _) HL.out.1) (cell_kept (below_box _ _) HL.out.2) ho2 hg2 (by simpa using hat2)
        have HI := hid hI
        have HRI := hid HS1.out.rises
        clear hI HS2 ho2 hg2 hat2 b0 b1 HS1 HVB HL hsz
        go_wp2_with fail
        obtain ⟨wq, hwq⟩ : ∃ wq, wq = w2 := ⟨_, rfl⟩
        rw [← hwq] at HI ⊢
        clear hwq
        go_loopw [6] (fun s6 wr => ∃ j : Nat, s6 = .int .i64 j ∧ InsAt w wr g c2 b c (rl, rh) j) (fun s _ => (intOf s).toNat)
        case atStart => exact ⟨c.length, rfl, HI.out⟩
        case round =>
          obtain ⟨j, rfl, hI⟩ := hrel
          have HJ := hid hI
          have hjl := hI.le
          have q0 := hI.lo
          have q1 := hI.hi
          clear hI HI
          simp only at q0 q1
          by_cases hj0 : j = 0
          · have hn0 : decide (0 < j) = false := decide_eq_false (by omega)
            have hn5 : (j : Int) < (c.length : Int) + 1 := by omega
            have HE := hid (fun q => (HJ.out.drewN q).ends (L := L) (k := k) (fun h => by omega) HRI.out HP.out)
            clear hj0
            go_upto_region 8 with fail
            go_quiet (fail)
            obtain ⟨y0, y1, f0, f1, f2, f3⟩ := (HJ.out.drewN nq).hole rl
            go_wp2_with fail
            go_roundw
            case rel => exact ⟨k + 1, _, hlt, by go_num, HE.out nq⟩
            case measure => simp [intOf]; omega
          · obtain ⟨q2, q3⟩ := HJ.out.cells (j - 1) (by omega)
            have hn0 : decide (0 < j) = true := decide_eq_true (by omega)
            have hn1 : (0 : Int) ≤ (j : Int) - 1 := by omega
            have hn2 : (j : Int) - 1 < (c.length : Int) + 1 := by omega
            have hn3 : ((j : Int) - 1).toNat = j - 1 := by omega
            have hn4 : IntKind.i64.wrap ((j : Int) - 1) = (j : Int) - 1 := by rw [IntKind.wrap_i64]; omega
            have hn5 : (j : Int) < (c.length : Int) + 1 := by omega
            have HDN := hid (fun (h : rl < (nth c (j - 1)).1) q => (by
              obtain ⟨m, rfl⟩ : ∃ m, j = m + 1 := ⟨j - 1, by omega⟩
              exact (HJ.out.drewN q).down h : InsAt w (put2 (wr.drewN q) g (j * 2) (nth c (j - 1)).1 (nth c (j - 1)).2) g c2 b c (rl, rh) (j - 1)))
            have HE := hid (fun (h : ¬ rl < (nth c (j - 1)).1) q => (HJ.out.drewN q).ends (L := L) (k := k) (fun _ => by simp only; omega) HRI.out HP.out)
            generalize nth c (j - 1) = t at *
            obtain ⟨tl, th⟩ := t
            simp only at q2 q3 HDN HE
            by_cases hlt2 : rl < tl
            · have hd2 : decide (rl < tl) = true := decide_eq_true hlt2
              go_upto_region 8 with fail
              go_quiet (fail)
              obtain ⟨y0, y1, f0, f1, f2, f3⟩ := (HJ.out.drewN nq).hole tl
              go_wp2_with fail
              go_roundw
              case rel => exact ⟨j - 1, by first | go_num | (congr 1; omega), HDN.out hlt2 nq⟩
              case measure => simp [intOf]; omega
            · have hd2 : decide (rl < tl) = false := decide_eq_false hlt2
              go_upto_region 8 with fail
              go_quiet (fail)
              obtain ⟨y0, y1, f0, f1, f2, f3⟩ := (HJ.out.drewN nq).hole rl
              go_wp2_with fail
              go_roundw
              case rel => exact ⟨k + 1, _, hlt, by go_num, HE.out hlt2 nq⟩
              case measure => simp [intOf]; omega
      · have hd : decide (rh ≤ rl) = true := decide_eq_true (by omega)
        rw [hd]
        have HK := hid (HSK.out (by omega) w1 HB1.out)
        go_wp2_with fail
        go_roundw
        case rel => exact ⟨k + 1, c, hlt, by go_num, HK.out⟩
        case measure => simp [intOf]; omega
    · have e : k = L.length := by omega
      subst e
      have hki : ¬ (L.length : Int) < (L.length : Int) := by omega
      go_wp2_with fail
      go_ret
      have hp := HS.out.perm
      rw [List.take_length] at hp
      exact ⟨_, rfl, c, hp, HS.out.rises, HS.out.row, HS.out.bel⟩
end Go.Proofs.Ytjbjaklbckhodab
