import Derived.Test.YtimiokbnhneggaaSto1
namespace Go.Proofs.Ytimiokbnhneggaa
open Go.RowKit Go.Maps
set_option maxRecDepth 100000

theorem make1024 (w : World) : (Instr.makeSlice 22 (.int .i64 1024) (.int .i64 1024)).run Try.prog w = .ok (.slice (some ⟨w.heap.size, 0, none⟩) 1024 1024) (w.alloc (.cells (bcells (z 1024)).toArray 5)) := make_run w 1024 (by decide)
theorem eqS (w : World) (g : Nat) : (binOp BinOp.eql 22 (.slice (some ⟨g, 0, none⟩) 1024 1024) (.slice none 0 0)).run Try.prog w = .ok (.bool false) w := by kernel_rfl
theorem eqN (w : World) : (binOp BinOp.eql 22 (.slice none 0 0) (.slice none 0 0)).run Try.prog w = .ok (.bool true) w := by kernel_rfl
/-- What stands when j of the bytes are laid down. -/
structure PutAt (w wr : World) (b n : Nat) (D D' : DM) (x : Int) (d : List (BitVec 8)) (j n' : Nat) : Prop where
  sto : Sto wr b n' D'
  few : n' ≤ n + j
  fr : Fr (SB b D) w wr
  sub : ∀ k, SB b D' k → SB b D k ∨ w.heap.size ≤ k
  old : ∀ y c, At w D y c → y < x ∨ x + j ≤ y → At wr D' y c
  new : ∀ i, i < j → ∀ (hd : i < d.length), At wr D' (x + i) d[i]
theorem PutAt.start {w : World} {b n : Nat} {D : DM} (h : Sto w b n D) (x : Int) (d : List (BitVec 8)) : PutAt w w b n D D x d 0 n :=
  ⟨h, Nat.le_refl _, Fr.refl _ _, fun _ h => .inl h, fun _ _ h _ => h, fun i hi => absurd hi (by omega)⟩
/-- A block is there ahead of the copy. -/
theorem PutAt.made {w wr w1 w2 : World} {b n : Nat} {D D' : DM} {x : Int} {d : List (BitVec 8)} {j n' : Nat} (h : PutAt w wr b n D D' x d j n') {q : Int} (hq : blk D' q = none) (e1 : w1 = wr.alloc (.cells (bcells (z 1024)).toArray 5))
    (ho : OwnS w2 b (n' + 1) (D'.put (kw q) (.held wr.heap.size))) (hg : w1.grownBy w2 (some b)) (hn : n' + 1 ≤ n + j + 1) :
    ∃ D2, D2 = D'.put (kw q) (.held wr.heap.size) ∧ blk D2 q = some wr.heap.size ∧ Sto w2 b (n' + 1) D2 ∧ Fr (SB b D) w w2 ∧ (∀ k, SB b D2 k → SB b D k ∨ w.heap.size ≤ k) ∧ (∀ y c, At w D y c → y < x ∨ x + j ≤ y → At w2 D2 y c) ∧ (∀ i, i < j → ∀ (hd : i < d.length), At w2 D2 (x + i) d[i]) ∧ n' + 1 ≤ n + j + 1 := by
  obtain ⟨s1, s2, s3, s4, s5⟩ := sto_made h.sto hq e1 ho hg
  refine ⟨_, rfl, s2, s1, h.fr.trans s3 h.sub, fun k hk => ?_, fun y c hy hx => s5 _ _ (h.old y c hy hx), fun i hi hd => s5 _ _ (h.new i hi hd), hn⟩
  rcases s4 k hk with e | e
  · exact h.sub k e
  · exact .inr (Nat.le_trans h.fr.size e)
/-- Behind the copy of k bytes. -/
theorem PutAt.laid {w w1 w2 : World} {b n : Nat} {D D' : DM} {x : Int} {d : List (BitVec 8)} {j n' : Nat} (s : Sto w1 b n' D') (hn : n' ≤ n + j + 1) (fr : Fr (SB b D) w w1) (sub : ∀ k, SB b D' k → SB b D k ∨ w.heap.size ≤ k)
    (old : ∀ y c, At w D y c → y < x ∨ x + j ≤ y → At w1 D' y c) (new : ∀ i, i < j → ∀ (hd : i < d.length), At w1 D' (x + i) d[i])
    {g : Nat} (hg : blk D' ((x + j) / 1024) = some g) {l : List (BitVec 8)} (hl : l.length = 1024) (k : Nat) (h1 : 1 ≤ k) (hk : (k : Int) ≤ 1024 - (x + j) % 1024) (hd : j + k ≤ d.length) (hrow : Row w1 g (bcells l) 5)
    (hr : w2 = w1.setRow g ((bcells l).take ((x + j) % 1024).toNat ++ bcells ((d.drop j).take k) ++ (bcells l).drop (((x + j) % 1024).toNat + k)).toArray) : PutAt w w2 b n D D' x d (j + k) n' := by
  have hf : w1.grownBy w2 (some g) := by rw [hr]; exact ⟨rfl, rfl, rfl, by rw [setRow_size]; exact Nat.le_refl _, fun k' _ hk' => setRow_other w1 g k' _ (fun e => hk' (by rw [e]))⟩
  obtain ⟨t1, t2, t3, t4⟩ := sto_laid s hg hl (d := d.drop j) k hk (by simp; omega) hrow (by rw [hr]; exact hrow.row _) hf
  refine ⟨t1, by omega, fr.trans t2 sub, sub, fun y c hy hx => t3 y c (old y c hy (by omega)) (by omega), fun i hi hdl => ?_⟩
  by_cases e : i < j
  · exact t3 _ _ (new i e hdl) (.inl (by omega))
  · have := t4 (i - j) (by omega)
    rw [List.getElem_drop] at this
    have e1 : x + ↑j + ↑(i - j) = x + (i : Int) := by omega
    have e2 : d[j + (i - j)]'(by omega) = d[i] := by congr 1; omega
    rw [e1, e2] at this
    exact this
set_option maxHeartbeats 4000000 in
theorem put_any {w : World} {b n : Nat} {D : DM} (h : Sto w b n D) {x : Int} (h0 : 0 ≤ x) {d : List (BitVec 8)} (hx : x + d.length ≤ 18446744073709549568) (hn : n + d.length < 4611686018427387904) {a : Option Addr} {cap : Nat} (hcap : d.length ≤ cap) (hcm : cap ≤ maxLen) (hB : BytesAt w a d)
    (hS : ∀ g o, a = some ⟨g, o, none⟩ → ¬ SB b D g) :
    Calls Try.prog 25 #[.map (some b), .int .u64 x, .slice a d.length cap] w fun e w' => e = .returned (.tuple #[]) ∧ ∃ n' D', PutAt w w' b n D D' x d d.length n' := by
  have HST := hid (PutAt.start h x d)
  have HN := hid hn
  have HS := hid hS
  have HB := hid hB
  clear hn hS hB h
  by_cases hz : d = []
  · subst hz
    go_enter Try.func25, Try.ntmps25
    go_wp2_with fail
    go_loopw [1, 2] (fun s1 s2 wr => s1 = .int .u64 x ∧ s2 = .slice a 0 cap ∧ wr = w) (fun _ _ _ => 0)
    case atStart => exact ⟨rfl, rfl, rfl⟩
    case round =>
      obtain ⟨rfl, rfl, rfl⟩ := hrel
      go_wp2
      refine bodyPost_end (results_none Try.results25 _ _ _) rfl ?_
      exact ⟨rfl, _, _, HST.out⟩
  have hpos : 0 < d.length := by cases d with | nil => exact absurd rfl hz | cons => simp
  obtain ⟨gs, os, rfl, hx0⟩ := HB.out 0 hpos
  clear hx0
  have HC : Hid (∀ (wr : World) (j n' : Nat) (D' : DM), PutAt w wr b n D D' x d j n' → ∀ k (hk : k < d.length), wr.cell? ⟨gs, os + k, none⟩ = some (.int .u8 (ub d[k]))) := fun wr j n' D' hP k hk => by
    obtain ⟨g, o, e, c⟩ := HB.out k hk
    cases e
    exact hP.fr.cell c (HS.out _ _ rfl)
  clear HB HS hz
  go_enter Try.func25, Try.ntmps25
  go_wp2_with fail
  go_loopw [1, 2] (fun s1 s2 wr => ∃ (j n' : Nat) (D' : DM) (aj : Option Addr), j ≤ d.length ∧ s1 = .int .u64 (x + j) ∧ s2 = .slice aj (d.length - j) (cap - j) ∧ (j < d.length → aj = some ⟨gs, os + j, none⟩) ∧ PutAt w wr b n D D' x d j n') (fun s1 _ _ => (x + d.length - intOf s1).toNat)
  case atStart => exact ⟨0, n, D, _, Nat.zero_le _, by simp, rfl, fun _ => rfl, HST.out⟩
  case round =>
    obtain ⟨j, n', D', aj, hj, rfl, rfl, haj, hP⟩ := hrel
    have HP := hid hP
    clear hP
    by_cases hlt : j < d.length
    · obtain rfl := haj hlt
      clear haj
      have hcells := HC.out wr j n' D' HP.out
      have HJ := hid hlt
      obtain ⟨k, hk⟩ : ∃ k : Nat, (k : Int) = min ((x + d.length) - (x + j)) (1024 - (x + j) % 1024) := ⟨(min ((x + d.length) - (x + j)) (1024 - (x + j) % 1024)).toNat, by omega⟩
      have hk1 : 1 ≤ k := by omega
      have hk2 : j + k ≤ d.length := by omega
      have hk3 : (k : Int) ≤ 1024 - (x + j) % 1024 := by omega
      obtain ⟨N, hN⟩ : ∃ N : Nat, N = d.length - j := ⟨_, rfl⟩
      have hNk : k ≤ N := by omega
      have hN0 : (0 : Int) < (N : Int) := by omega
      have hNm : (N : Int) ≤ 9223372036854775807 := by unfold maxLen at hcm; omega
      have hcj : N ≤ cap - j := by omega
      have hyN : x + j + N = x + d.length := by omega
      have HSRC : Hid (∀ i v, (bcells ((d.drop j).take k))[i]? = some v → wr.cell? ((⟨gs, os + j, none⟩ : Addr).add i) = some v) := fun i v hv => by
        have hi : i < k := by have := (List.getElem?_eq_some_iff.1 hv).1; rw [bcells_len, List.length_take, List.length_drop] at this; omega
        rw [bcells_get (by simp; omega)] at hv
        rw [Addr.add_mid, Nat.add_assoc, hcells (j + i) (by omega)]
        rw [← hv]
        simp
      by_cases hb : ∃ g, blk D' ((x + j) / 1024) = some g
      · obtain ⟨g, hg⟩ := hb
        have hl := look_some HP.out.sto.own (k := (x + j) / 1024) (by omega) (by omega) hg
        have hpc := piece_any HP.out.sto.own (x := x + j) (y := x + d.length) (by omega) (by omega) (by omega) hg k hk
        obtain ⟨l, hll, hrow⟩ := HP.out.sto.row _ _ hg
        have hrun := run_copy_row (P := Try.prog) wr 22 22 3 5 g ((x + j) % 1024).toNat k k ⟨gs, os + j, none⟩ N (cap - j) (bcells l).toArray 5 (bcells ((d.drop j).take k)) Try.underlying22 (by kernel_rfl) hrow.at_ (by rw [bcells_len, List.length_take, List.length_drop]; show min k (d.length - j) = min N k; omega) HSRC.out (by simp [bcells_len]; omega) (bcells_one _)
        have hkl : (bcells ((d.drop j).take k)).length = k := by rw [bcells_len]; simp; omega
        rw [hkl] at hrun
        obtain ⟨w2, hw2⟩ : ∃ w2, w2 = wr.setRow g ((bcells l).take ((x + j) % 1024).toNat ++ bcells ((d.drop j).take k) ++ (bcells l).drop (((x + j) % 1024).toNat + k)).toArray := ⟨_, rfl⟩
        rw [← hw2] at hrun
        have HF := hid (PutAt.laid (n := n) HP.out.sto (by have := HP.out.few; omega) HP.out.fr HP.out.sub HP.out.old HP.out.new hg hll k hk1 hk3 hk2 hrow hw2)
        rw [← hyN] at hpc
        rw [← hN]
        have HE := hid hk2
        have HY : Hid (x + (j : Int) + k = x + ((j + k : Nat) : Int)) := by show _ = _; omega
        have HYB := hid (show 0 ≤ x + (j : Int) ∧ x + (j : Int) + N ≤ 18446744073709549568 by omega)
        have HM := hid (show (x + (d.length : Int) - (x + (j : Int) + k)).toNat < (x + (d.length : Int) - (x + (j : Int))).toNat by omega)
        have hy0 := HYB.out.1
        have hy1 := HYB.out.2
        have HNE := hid (show d.length - (j + k) = N - k ∧ cap - (j + k) = cap - j - k ∧ os + (j + k) = os + j + k ∧ (j + k < d.length → ¬ cap - j = k) by omega)
        clear hcells hw2 hrow hll hkl HSRC HP HC HST HN hyN hN hcap hcm hx hk3 hk2 hk hpos
        generalize hyy : x + (j : Int) = y at *
        clear hyy
        have heq := eqS wr g
        go_wp2_with (go_at_call 46; refine hpc.mono ?_; rintro e w3 ⟨rfl, rfl⟩)
        refine ⟨⟨j + k, _, _, _, HE.out, congrArg _ HY.out, by rw [HNE.out.1, HNE.out.2.1], fun hl => ?_, HF.out⟩, HM.out⟩
        rw [if_neg (HNE.out.2.2.2 hl), HNE.out.2.2.1]
      · have hbn : blk D' ((x + j) / 1024) = none := by
          cases hq : blk D' ((x + j) / 1024) with
          | none => rfl
          | some g => exact absurd ⟨g, hq⟩ hb
        have hl := look_none HP.out.sto.own (k := (x + j) / 1024) (by omega) (by omega) hbn
        have hsw : gs < wr.heap.size := World.block_lt_of_cell? wr _ (hcells j hlt)
        have HNM : Hid (n' < maxLen) := by show n' < maxLen; have := HP.out.few; have := HN.out; unfold maxLen; omega
        have HKEY := hid (key28 (n := (x + j) / 1024) (by omega) (by omega))
        have HOWN := hid HP.out.sto.own
        have HNX : Hid (∀ w2 : World, OwnS w2 b (n' + 1) (D'.put (kw ((x + j) / 1024)) (.held wr.heap.size)) → (wr.alloc (.cells (bcells (z 1024)).toArray 5)).grownBy w2 (some b) → ∃ w3,
            Calls Try.prog 46 #[.map (some b), .int .u64 (x + j), .int .u64 (x + j + N)] w2 (fun e w' => e = .returned (.slice (some ⟨wr.heap.size, ((x + j) % 1024).toNat, none⟩) k k) ∧ w' = w2) ∧
            (Builtin.copy_ #[22, 22] 3 #[.slice (some ⟨wr.heap.size, ((x + j) % 1024).toNat, none⟩) k k, .slice (some ⟨gs, os + j, none⟩) N (cap - j)]).run Try.prog w2 = .ok (goInt k) w3 ∧
            PutAt w w3 b n D (D'.put (kw ((x + j) / 1024)) (.held wr.heap.size)) x d (j + k) (n' + 1)) := fun w2 ho hg => by
          obtain ⟨D2, rfl, hb2, hs2, hf2, hsub, hold, hnew, hn2⟩ := PutAt.made HP.out hbn rfl ho hg (by have := HP.out.few; omega)
          have hpc := piece_any ho (x := x + j) (y := x + d.length) (by omega) (by omega) (by omega) hb2 k hk
          obtain ⟨l, hll, hrow⟩ := hs2.row _ _ hb2
          have hbne : gs ≠ b := fun e => by
            obtain ⟨es, clock, hbb, _⟩ := HP.out.sto.own
            have hc := hcells j hlt
            rw [e] at hc
            simp [World.cell?, hbb] at hc
          have hs1 : ∀ i v, (bcells ((d.drop j).take k))[i]? = some v → w2.cell? ((⟨gs, os + j, none⟩ : Addr).add i) = some v := fun i v hv => by
            have h1 := HSRC.out i v hv
            rw [Addr.add_mid] at h1 ⊢
            have hb1 : Below wr.heap.size wr (wr.alloc (.cells (bcells (z 1024)).toArray 5)) := (Below.refl _ _).alloc (Nat.le_refl _) _
            have h2 := cell_kept hb1 h1
            rw [World.cell?_of_block (hg.block gs (World.block_lt_of_cell? _ _ h2) (by simp; exact hbne))]
            exact h2
          have hrun := run_copy_row (P := Try.prog) w2 22 22 3 5 wr.heap.size ((x + j) % 1024).toNat k k ⟨gs, os + j, none⟩ N (cap - j) (bcells l).toArray 5 (bcells ((d.drop j).take k)) Try.underlying22 (by kernel_rfl) hrow.at_ (by rw [bcells_len, List.length_take, List.length_drop]; show min k (d.length - j) = min N k; omega) hs1 (by simp [bcells_len]; omega) (bcells_one _)
          have hkl : (bcells ((d.drop j).take k)).length = k := by rw [bcells_len]; simp; omega
          rw [hkl] at hrun
          rw [← hyN] at hpc
          exact ⟨_, hpc, hrun, PutAt.laid (n := n) hs2 hn2 hf2 hsub hold hnew hb2 hll k hk1 hk3 hk2 hrow rfl⟩
        rw [← hN]
        have HE := hid hk2
        have HY : Hid (x + (j : Int) + k = x + ((j + k : Nat) : Int)) := by show _ = _; omega
        have HYB := hid (show 0 ≤ x + (j : Int) ∧ x + (j : Int) + N ≤ 18446744073709549568 by omega)
        have HM := hid (show (x + (d.length : Int) - (x + (j : Int) + k)).toNat < (x + (d.length : Int) - (x + (j : Int))).toNat by omega)
        have hy0 := HYB.out.1
        have hy1 := HYB.out.2
        have HNE := hid (show d.length - (j + k) = N - k ∧ cap - (j + k) = cap - j - k ∧ os + (j + k) = os + j + k ∧ (j + k < d.length → ¬ cap - j = k) by omega)
        have heq := eqN wr
        have hmk := make1024 wr
        clear hcells HSRC HP HC HST HN hyN hN hcap hcm hx hk3 hk2 hk hpos hb hbn hsw
        generalize hyy : x + (j : Int) = y at *
        clear hyy
        go_wp2_with (first | (at_mapUpdate; refine wpList_mapUpdate_own _ rfl _ _ _ 55 rfl 28 22 law28 Try.underlying55 readB b n' D' rfl (World.ownsMap.alloc HOWN.out _) HNM.out _ _ _ rfl rfl HKEY.out (.held wr.heap.size) [] rfl ?_; intro w2 hown2 hgrow2; obtain ⟨w3, hpc, hrun, hF⟩ := HNX.out w2 hown2 hgrow2; have HF := hid hF; clear hown2 hgrow2 hF) | (go_at_call 46; refine hpc.mono ?_; rintro e w4 ⟨rfl, rfl⟩))
        refine ⟨⟨j + k, _, _, _, HE.out, congrArg _ HY.out, by rw [HNE.out.1, HNE.out.2.1], fun hl => ?_, HF.out⟩, HM.out⟩
        rw [if_neg (HNE.out.2.2.2 hl), HNE.out.2.2.1]
    · obtain rfl : j = d.length := by omega
      have hz : d.length - d.length = 0 := by omega
      go_wp2
      refine bodyPost_end (results_none Try.results25 _ _ _) rfl ?_
      exact ⟨rfl, _, _, HP.out⟩
end Go.Proofs.Ytimiokbnhneggaa
