import Derived.Test.YtkhogbnoincbeabSc2
namespace Go.Proofs.Ytkhogbnoincbeab
open Go.RowKit Go.Maps Go.Sort
set_option maxRecDepth 100000

def dataD (F : PF) (l : List (BitVec 8)) : Int × PF × List (BitVec 8) :=
  if ¬ (numD 9 0 0 l).1 = 0 then ((numD 9 0 0 l).1, F, (numD 9 0 0 l).2.2) else if 16384 < (numD 9 0 0 l).2.1 then (173, F, (numD 9 0 0 l).2.2)
  else if (numD 9 0 0 l).2.2.length < (numD 9 0 0 l).2.1 then (174, F, (numD 9 0 0 l).2.2) else (0, { F with bs := (numD 9 0 0 l).2.2.take (numD 9 0 0 l).2.1 }, (numD 9 0 0 l).2.2.drop (numD 9 0 0 l).2.1)
theorem make_run64 (w : World) (n : Nat) (hn : n ≤ 16384) : (Instr.makeSlice 27 (.int .u64 (n : Int)) (.int .u64 (n : Int))).run Try.prog w = .ok (.slice (some ⟨w.heap.size, 0, none⟩) n n) (w.alloc (.cells (bcells (z n)).toArray 5)) := by
  obtain ⟨i, h1, h2, h3, h4⟩ := info5
  have hr := run_make (P := Try.prog) w 27 5 i (.int .u8 0) Try.underlying27 h1 h2 .u64 .u64 (n : Int) (n : Int) (by omega) (by omega) (by rw [h4]; omega) (by omega)
  simp only [Int.toNat_natCast, h3, Nat.mul_one, Value.cells, made0] at hr
  exact hr
theorem copy_nil (w : World) (g : Nat) : (Builtin.copy_ #[27, 27] 3 #[.slice (some ⟨g, 0, none⟩) 0 0, .slice none 0 0]).run Try.prog w = .ok (.int .i64 0) w := by
  obtain ⟨i, h1, -, -, -⟩ := info5
  simp [Builtin.copy_, run_underlying Try.underlying27, Builtin.lenOf, Builtin.firstCells, sizeOf, typeInfo, h1, go_sem]
set_option maxHeartbeats 2000000 in
theorem data_any {B : Nat} {w : World} {p : Nat} {F : PF} {l : List (BitVec 8)} (H : Sx B w p F l) (hB : B ≤ w.heap.size) : Calls Try.prog 38 #[.pointer (some ⟨p, 0, none⟩)] w (RdAns B w p (dataD F l)) := by
  obtain ⟨hp, v, d, hs, hl, hd⟩ := H
  have HN := hid (number_any hs hl)
  have HD := hid hd
  have HP := hid hp
  have HBB := hid hB
  clear hs hl hd hp hB
  unfold dataD
  generalize numD 9 0 0 l = r at *
  obtain ⟨e0, N, m⟩ := r
  simp only at *
  by_cases h1 : e0 = 0
  · subst h1
    rw [if_neg (by simp)]
    by_cases h2 : 16384 < N
    · have h2b : (16384 : Int) < (N : Int) := by omega
      rw [if_pos h2]
      go_enter Try.func38, Try.ntmps38
      go_wp2_with (go_at_call 53; refine HN.out.mono ?_; rintro e w5 ⟨rfl, v5, hs5, hl5, hf5⟩; have HS5 := hid hs5; have HL5 := hid hl5; have HF5 := hid hf5; clear hs5 hl5 hf5)
      go_ret
      exact ⟨rfl, ⟨HP.out, _, _, HS5.out, HL5.out, HD.out.fr HF5.out (fun x hx => by have := HP.out; omega)⟩, HF5.out⟩
    · have h2b : ¬ (16384 : Int) < (N : Int) := by omega
      rw [if_neg h2]
      by_cases h3 : m.length < N
      · have h3b : (m.length : Int) < (N : Int) := by omega
        rw [if_pos h3]
        go_enter Try.func38, Try.ntmps38
        go_wp2_with (go_at_call 53; refine HN.out.mono ?_; rintro e w5 ⟨rfl, v5, hs5, hl5, hf5⟩; have HS5 := hid hs5; have HL5 := hid hl5; have HF5 := hid hf5; obtain ⟨a5, cap5, rfl, -⟩ := hl5; have c10 := hs5.row.cell 10 _ rfl; clear hs5 hf5)
        all_goals
          go_ret
          exact ⟨rfl, ⟨HP.out, _, _, HS5.out, HL5.out, HD.out.fr HF5.out (fun x hx => by have := HP.out; omega)⟩, HF5.out⟩
      · have h3b : ¬ (m.length : Int) < (N : Int) := by omega
        rw [if_neg h3]
        have hmk := fun W => make_run64 W N (by omega)
        go_enter Try.func38, Try.ntmps38
        go_upto_region 6 with (go_at_call 53; refine HN.out.mono ?_; rintro e w5 ⟨rfl, v5, hs5, hl5, hf5⟩)
        have HS5 := hid hs5
        have HL5 := hid hl5
        have HF5 := hid hf5
        obtain ⟨a5, cap5, rfl, hB5, ⟨hc5, hm5⟩, hz5, hn5⟩ := hl5
        have hw1 : IntKind.u64.wrap (m.length : Int) = m.length := by unfold maxLen at hm5; rw [IntKind.wrap_u64]; omega
        have c10 := hs5.row.cell 10 _ rfl
        have R1 := hs5.row.alloc (.cells (bcells (z N)).toArray 5)
        have d16 := R1.cell 16 _ rfl
        have e16 := R1.frozen 16
        have HS6 : Hid (Sc ((w5.setCell ⟨p, 16, none⟩ (.slice (some ⟨w5.heap.size, 0, none⟩) N N)).alloc (.cells (bcells (z N)).toArray 5)) p (.slice a5 m.length cap5) F.k F.s F.n F.c F.h (.slice (some ⟨w5.heap.size, 0, none⟩) N N)) := (hs5.set 16 _ rfl).kept (below_new _ _)
        have HR6 : Hid (Row ((w5.setCell ⟨p, 16, none⟩ (.slice (some ⟨w5.heap.size, 0, none⟩) N N)).alloc (.cells (bcells (z N)).toArray 5)) w5.heap.size (bcells (z N)) 5) := Row.new' _ _ _ _ _ (by simp [World.setCell]) rfl
        have HF6 : Hid (Fr (fun x => x = p) w ((w5.setCell ⟨p, 16, none⟩ (.slice (some ⟨w5.heap.size, 0, none⟩) N N)).alloc (.cells (bcells (z N)).toArray 5))) := fr_two (fr_two hf5 (fr_set _ p 16 _)) (Fr.of_below (below_new _ _) (Nat.le_refl _))
        have HL6 : Hid (Lf ((w5.setCell ⟨p, 16, none⟩ (.slice (some ⟨w5.heap.size, 0, none⟩) N N)).alloc (.cells (bcells (z N)).toArray 5)) p (.slice a5 m.length cap5) m) := (HL5.out.fr (fr_set _ p 16 _)).kept (below_new _ _)
        have HG6 := hid (Nat.le_trans HBB.out hf5.size)
        have hpl := hs5.lt
        have HPL := hid hpl
        clear hs5 hf5 R1
        go_upto_region 9 with fail
        obtain ⟨w6, hw6⟩ : ∃ w6, w6 = ((w5.setCell ⟨p, 16, none⟩ (.slice (some ⟨w5.heap.size, 0, none⟩) N N)).alloc (.cells (bcells (z N)).toArray 5)) := ⟨_, rfl⟩
        rw [← hw6] at HS6 HR6 HF6 HL6 ⊢
        clear hw6
        have HCP : Hid (∃ w7, (Builtin.copy_ #[27, 27] 3 #[.slice (some ⟨w5.heap.size, 0, none⟩) N N, .slice a5 m.length cap5]).run Try.prog w6.drew = .ok (.int .i64 (N : Int)) w7 ∧ Row w7 w5.heap.size (bcells (m.take N)) 5 ∧ Sc w7 p (.slice a5 m.length cap5) F.k F.s F.n F.c F.h (.slice (some ⟨w5.heap.size, 0, none⟩) N N) ∧ Lf w7 p (.slice a5 m.length cap5) m ∧ Fr (fun x => x = p) w w7) := by
          have hgp : ¬ w5.heap.size = p := by omega
          have hfd : Fr (fun x => x = p) w w6.drew := HF6.out.drewN 1
          have hsd : Sc w6.drew p (.slice a5 m.length cap5) F.k F.s F.n F.c F.h (.slice (some ⟨w5.heap.size, 0, none⟩) N N) := ⟨⟨HS6.out.row.at_⟩, fun j k1 k2 => ⟨(HS6.out.tab j k1 k2).at_⟩⟩
          have hld : Lf w6.drew p (.slice a5 m.length cap5) m := by
            obtain ⟨a, cap, e, k1, k2⟩ := HL6.out
            exact ⟨a, cap, e, fun k hk => k1 k hk, k2⟩
          have hrd : Row w6.drew w5.heap.size (bcells (z N)) 5 := ⟨HR6.out.at_⟩
          cases a5 with
          | none =>
            obtain rfl : cap5 = 0 := hz5 rfl
            obtain rfl : m = [] := List.eq_nil_of_length_eq_zero (by omega)
            obtain rfl : N = 0 := by simp at h3; exact h3
            exact ⟨w6.drew, copy_nil _ _, hrd, hsd, hld, hfd⟩
          | some ad =>
            have hmin : (bcells (m.take N)).length = N := by rw [bcells_len, List.length_take]; omega
            have hrun := run_copy_row (P := Try.prog) w6.drew 27 27 3 5 w5.heap.size 0 N N ad m.length cap5 (bcells (z N)).toArray 5 (bcells (m.take N)) Try.underlying27 (by kernel_rfl) hrd.at_ (by rw [hmin]; show N = min m.length N; omega) (fun j v hv => ?_) (by rw [hmin]; simp [bcells_len, z_len]) (bcells_one _)
            · rw [hmin] at hrun
              refine ⟨_, hrun, ?_, ?_, ?_, ?_⟩
              · have : (bcells (z N)).toArray.toList.take 0 ++ bcells (m.take N) ++ (bcells (z N)).toArray.toList.drop (0 + N) = bcells (m.take N) := by
                  simp [z_len, bcells]
                rw [this]
                exact hrd.row _
              · exact hsd.fr (S := fun x => x = w5.heap.size) ⟨rfl, rfl, rfl, by rw [setRow_size]; exact Nat.le_refl _, fun k _ hk => setRow_other _ _ _ _ hk⟩ (fun j hj e => by
                  cases j with
                  | zero => have := HS5.out.lt; omega
                  | succ j => have := (HS5.out.tab (j + 1) (by omega) hj).lt; omega)
              · refine hld.far (S := fun x => x = w5.heap.size) ⟨rfl, rfl, rfl, by rw [setRow_size]; exact Nat.le_refl _, fun k _ hk => setRow_other _ _ _ _ hk⟩ (fun n cp g o e hl hg => ?_)
                injection e with e1 e2 e3
                obtain ⟨g1, o1, e4, c4⟩ := hB5 0 hl
                rw [e1] at e4
                injection e4 with e4
                injection e4 with e4 e5
                have := World.block_lt_of_cell? w5 _ c4
                simp only at this
                omega
              · exact hfd.trans (T := fun x => x = w5.heap.size) ⟨rfl, rfl, rfl, by rw [setRow_size]; exact Nat.le_refl _, fun k _ hk => setRow_other _ _ _ _ hk⟩ (fun x hx => .inr (by rw [hx]; exact HF5.out.size))
            · have hj : j < (m.take N).length := by
                have := (List.getElem?_eq_some_iff.1 hv).1
                rwa [bcells_len] at this
              rw [bcells_get hj] at hv
              obtain ⟨a, cap, e, k1, _⟩ := hld
              injection e with e1 e2 e3
              obtain ⟨g, o, e4, c4⟩ := k1 j (by rw [List.length_take] at hj; omega)
              rw [← e1] at e4
              injection e4 with e4
              rw [e4, Addr.add_lit, c4, ← hv, List.getElem_take]
        obtain ⟨w7, hcp, hr7, hs7, hl7, hf7⟩ := HCP.out
        have HR7 := hid hr7
        have HS7 := hid hs7
        have HL7 := hid hl7
        have HF7 := hid hf7
        have x10 : w6.drew.cell? ⟨p, 10, none⟩ = _ := HS6.out.row.cell 10 _ rfl
        have x16 : w6.drew.cell? ⟨p, 16, none⟩ = _ := HS6.out.row.cell 16 _ rfl
        have y10 := hs7.row.cell 10 _ rfl
        have g10 := hs7.row.frozen 10
        clear hr7 hs7 hl7 hf7 HCP d16 e16 c10 hmk
        go_region
        have q1 : (N : Int) ≤ (cap5 : Int) := by omega
        cases a5 with
        | none =>
          obtain rfl : cap5 = 0 := hz5 rfl
          obtain rfl : m = [] := List.eq_nil_of_length_eq_zero (by omega)
          obtain rfl : N = 0 := by simp at h3; exact h3
          go_wp2_with fail
          go_ret
          exact ⟨rfl, ⟨HP.out, _, _, HS7.out.set 10 _ rfl, (lf_out w7 p none (n := 0) (l := []) (Nat.le_refl _)).fr (fr_set _ p 10 _), .inr ⟨w5.heap.size, rfl, HR7.out.setOther ⟨p, 10, none⟩ (by have := HPL.out; show w5.heap.size ≠ p; omega) _, HG6.out⟩⟩, fr_two HF7.out (fr_set _ p 10 _)⟩
        | some ad =>
          have HC5 := hid hc5
          have HM5 := hid hm5
          have H3 := hid h3
          clear hc5 hm5 hz5 h3
          go_wp2_with fail
          · go_ret
            rename_i hcn
            refine ⟨rfl, ⟨HP.out, _, _, HS7.out.set 10 _ rfl, (lf_out w7 p (some ad) (n := N) (l := m) (by have := HC5.out; omega)).fr (fr_set _ p 10 _), .inr ⟨w5.heap.size, ?_, HR7.out.setOther ⟨p, 10, none⟩ (by have := HPL.out; show w5.heap.size ≠ p; omega) _, HG6.out⟩⟩, fr_two HF7.out (fr_set _ p 10 _)⟩
            rw [List.length_take, show min N m.length = N by have := H3.out; omega]
          · go_ret
            refine ⟨rfl, ⟨HP.out, _, _, HS7.out.set 10 _ rfl, (HL7.out.drop (n := N) (by have := H3.out; omega)).fr (fr_set _ p 10 _), .inr ⟨w5.heap.size, ?_, HR7.out.setOther ⟨p, 10, none⟩ (by have := HPL.out; show w5.heap.size ≠ p; omega) _, HG6.out⟩⟩, fr_two HF7.out (fr_set _ p 10 _)⟩
            rw [List.length_take, show min N m.length = N by have := H3.out; omega]
  · have h1b : (e0 == 0) = false := by simpa using h1
    rw [if_pos h1]
    go_enter Try.func38, Try.ntmps38
    go_wp2_with (go_at_call 53; refine HN.out.mono ?_; rintro e w5 ⟨rfl, v5, hs5, hl5, hf5⟩; have HS5 := hid hs5; have HL5 := hid hl5; have HF5 := hid hf5; clear hs5 hl5 hf5)
    go_ret
    exact ⟨rfl, ⟨HP.out, _, _, HS5.out, HL5.out, HD.out.fr HF5.out (fun x hx => by have := HP.out; omega)⟩, HF5.out⟩
end Go.Proofs.Ytkhogbnoincbeab
