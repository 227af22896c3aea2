import Derived.Test.YtfhjiggaacgncaaDoorTx1
import Derived.Lib.QuietBelow
import Derived.BigQuiet
import Derived.Deep.CutRange
namespace Go.Proofs.YtfhjiggaacgncaaDoor.Tx
open Go.RowKit Go.Maps Go.Sort
set_option maxRecDepth 100000

theorem below_same {w w' : World} (h : w' = w) : Below w.heap.size w w' := by subst h; exact Below.refl _ _
theorem own_byte {w : World} {B g c n : Nat} {Z : List (BitVec 8)} (h : w.ownsRow B 5 1 (.slice (some ⟨g, 0, none⟩) n c) n (bcells Z)) (hn : Z.length = n) (i : Nat) (hi : i < Z.length) : w.cell? ⟨g, i, none⟩ = some (.int .u8 (ub Z[i])) := (h.cellAt _ (by omega)).trans (bcells_get hi)
theorem own_place {w : World} {B g c n : Nat} {Z : List (BitVec 8)} (h : w.ownsRow B 5 1 (.slice (some ⟨g, 0, none⟩) n c) n (bcells Z)) (hn : Z.length = n) (i : Nat) (hi : i < Z.length) :
    ∃ y0, w.cell? ⟨g, i, none⟩ = some y0 ∧ w.frozen? ⟨g, i, none⟩ = false := ⟨_, own_byte h hn i hi, h.frozenAt _⟩
/-- The cells of a row of slices. -/
theorem hdr_cells {B : Nat} {w : World} {v : Value} {X : List Value} (h : w.ownsRow B 30 1 v X.length X) : ∃ al cl, v = .slice al X.length cl ∧ ∀ i (hi : i < X.length), ∃ gl, al = some ⟨gl, 0, none⟩ ∧ w.cell? ⟨gl, i, none⟩ = some X[i] ∧ ∃ cs, w.heap[gl]? = some (.cells cs 30 (0, 0)) := by
  rcases h.2 with ⟨rfl, hn⟩ | ⟨g, cap, cur, rfl, _, hg, hnc, hcm, hcs, htk⟩
  · exact ⟨none, 0, by rw [hn], fun i hi => by omega⟩
  · refine ⟨_, cap, rfl, fun i hi => ⟨g, rfl, ?_, cur, hg⟩⟩
    rw [cell_of_row w g _ _ _ _ hg]
    have h1 := congrArg (·[i]?) htk
    simp only [List.getElem?_take_of_lt (show i < X.length * 1 by omega), List.getElem?_eq_getElem hi] at h1
    simpa using h1
theorem book_heads {B : Nat} {w : World} {b : Nat} {lv wv : Value} {X Y : List Value} (h : Book B w b lv wv X Y) : w.cell? ⟨b, 0, none⟩ = some lv ∧ w.cell? ⟨b, 1, none⟩ = some wv := by
  rw [cell_of_row w b _ _ _ _ h.head, cell_of_row w b _ _ _ _ h.head]
  exact ⟨rfl, rfl⟩
theorem Book.below {B : Nat} {w w' : World} {b : Nat} {lv wv : Value} {X Y : List Value} (h : Book B w b lv wv X Y) (hb : Below w.heap.size w w') : Book B w' b lv wv X Y :=
  ⟨(hb.block b (Array.getElem?_eq_some_iff.1 h.head).1).trans h.head, own_below h.l hb, own_below h.s hb, h.ne⟩
/-- All lists marked up to the kk-th place of the k-th. -/
def mk (C : Nat → List (BitVec 8)) (k kk j : Nat) : List (BitVec 8) := if j < k then fillL j (C j) (C j).length else if j = k then fillL j (C j) kk else C j
theorem mk_len {C : Nat → List (BitVec 8)} {k kk j : Nat} (h : j = k → kk ≤ (C j).length) : (mk C k kk j).length = (C j).length := by
  unfold mk
  split
  · exact fillL_len _ _ _ (Nat.le_refl _)
  · split
    · rename_i e; exact fillL_len _ _ _ (h e)
    · rfl
theorem mk_zero (C : Nat → List (BitVec 8)) (j : Nat) : mk C 0 0 j = C j := by
  unfold mk
  rw [if_neg (by omega), fillL_zero]
  split <;> rfl
theorem mk_next (C : Nat → List (BitVec 8)) (k j : Nat) : mk C k (C k).length j = mk C (k + 1) 0 j := by
  unfold mk
  by_cases h1 : j < k
  · rw [if_pos h1, if_pos (by omega)]
  · rw [if_neg h1]
    by_cases h2 : j = k
    · subst h2
      rw [if_pos rfl, if_pos (by omega)]
    · rw [if_neg h2, if_neg (by omega)]
      split
      · rw [fillL_zero]
      · rfl
theorem mk_put (C : Nat → List (BitVec 8)) (k kk : Nat) (hkk : kk < (C k).length) (j : Nat) : (if j = k then (mk C k kk k).set kk (markOf k kk) else mk C k kk j) = mk C k (kk + 1) j := by
  unfold mk
  by_cases h : j = k
  · subst h
    rw [if_pos rfl, if_neg (Nat.lt_irrefl _), if_pos rfl, if_neg (Nat.lt_irrefl _), if_pos rfl]
    exact fillL_set _ _ _ hkk
  · rw [if_neg h, if_neg h, if_neg h]
theorem LA.ext {B : Nat} {w : World} {vs : List Value} {C D : Nat → List (BitVec 8)} (h : LA B w vs C) (e : ∀ j, C j = D j) : LA B w vs D := ⟨fun j hj => by rw [← e j]; exact h.row j hj, h.apart⟩

/-- A cell of what is of another type than ranges. -/
theorem Gone.cell {B : Nat} {w w' : World} {vs : List Value} {C : Nat → List (BitVec 8)} (H : LA B w vs C) (h : Gone w w' vs) {k j : Nat} {cs : Array Value} {t : TypeId} (hk : w.heap[k]? = some (.cells cs t (0, 0))) (ht : t ≠ 5) {v : Value} (hc : w.cell? ⟨k, j, none⟩ = some v) : w'.cell? ⟨k, j, none⟩ = some v :=
  (World.cell?_of_block (a := ⟨k, j, none⟩) ((h.far H hk ht).trans hk.symm)).trans hc
theorem own_some {w : World} {B n : Nat} {v : Value} {xs : List Value} (h : w.ownsRow B 5 1 v n xs) (hn : 0 < n) : ∃ g c, v = .slice (some ⟨g, 0, none⟩) n c := by
  rcases h.2 with ⟨_, h0⟩ | ⟨g, c, _, rfl, _⟩
  · omega
  · exact ⟨g, c, rfl⟩

theorem info25 : ∃ i : TypeInfo, Tryd.prog.info? 30 = some i ∧ i.zero = some (.slice none 0 0) ∧ i.size = 1 ∧ i.bytes = 24 := by
  have h : (Tryd.prog.info? 30).map (fun i => (i.zero, i.size, i.bytes)) = some (some (.slice none 0 0), 1, 24) := by kernel_rfl
  cases hi : Tryd.prog.info? 30 with
  | none => rw [hi] at h; simp at h
  | some i =>
    rw [hi] at h
    simp only [Option.map_some, Option.some.injEq, Prod.mk.injEq] at h
    exact ⟨i, rfl, h.1, h.2.1, h.2.2⟩
set_option maxHeartbeats 8000000 in
theorem good_any {B : Nat} {w : World} {b : Nat} {lv wv : Value} {vs Y : List Value} {C : Nat → List (BitVec 8)} (H : Book B w b lv wv vs Y) (hl : Y.length = vs.length) (hA : LA B w vs C)
    (hW : ∀ i (_ : i < vs.length), ∃ ay cy, Y[i]? = some (.slice ay (C i).length cy) ∧ BytesAt w ay (C i)) (hn : vs.length ≤ 1000000000000) (hBw : B ≤ w.heap.size) (hC : ∀ j, j < vs.length → (C j).length ≤ 140737488355200) :
    Calls Tryd.prog 32 #[.pointer (some ⟨b, 0, none⟩)] w fun e w' => e = .returned (.bool true) ∧ Gone w w' vs := by
  obtain ⟨al, cl, rfl, hlc⟩ := hdr_cells H.l
  obtain ⟨aw, cw, rfl, hwc⟩ := hdr_cells H.s
  obtain ⟨hb0, hb1⟩ := book_heads H
  have HH := hid H
  have HA := hid hA
  have HW := hid hW
  have HLC := hid hlc
  have HWC := hid hwc
  have HCL := hid hC
  clear H hA hW hlc hwc hC
  go_enter Tryd.func32, Tryd.ntmps32
  go_wp2_with fail
  go_loopw [18] (fun i wr => ∃ k : Nat, k ≤ vs.length ∧ i = .int .i64 k ∧ Below w.heap.size w wr) (fun i _ => vs.length - (intOf i).toNat)
  case atStart => exact ⟨0, Nat.zero_le _, rfl, Below.refl _ _⟩
  case round =>
    obtain ⟨k, hk, rfl, hb⟩ := hrel
    have HB := hid hb
    clear hb
    by_cases hlt : k < vs.length
    · have hki : (k : Int) < (vs.length : Int) := by omega
      have hky : (k : Int) < (Y.length : Int) := by omega
      have hk0 : (0 : Int) ≤ (k : Int) := by omega
      obtain ⟨gl, rfl, hgl, _⟩ := HLC.out k hlt
      obtain ⟨gw, rfl, hgw, _⟩ := HWC.out k (by omega)
      obtain ⟨ay, cy, hy, hCy⟩ := HW.out k hlt
      have hr := HA.out.row k hlt
      rw [List.getElem?_eq_getElem (by omega)] at hy
      simp only [Option.some.injEq] at hy
      rw [hy] at hgw
      obtain ⟨av, c, hv, hCv⟩ := own_cells hr
      rw [hv] at hgl
      have hbd := below_drewN HB.out 1
      have c0 := cell_kept HB.out hb0
      have c1 := cell_kept HB.out hb1
      have c2 := cell_kept HB.out hgl
      have c3 := cell_kept HB.out hgw
      have HSA := hid (psame_yes (c := c) (c' := cy) (hCv.kept hbd) rfl (hCy.kept hbd))
      have HD0 := hid (cell_kept hbd hb0)
      have HD1 := hid (cell_kept hbd hb1)
      have HD2 := hid (cell_kept hbd hgl)
      have HD3 := hid (cell_kept hbd hgw)
      have HBD := hid hbd
      clear hr hv hCv hCy hy hgl hgw hbd
      go_upto_region 4 with fail
      go_region_held3 (fun w' => w'.cell? ⟨b, 0, none⟩ = some (.slice (some ⟨gl, 0, none⟩) vs.length cl) ∧ w'.cell? ⟨b, 1, none⟩ = some (.slice (some ⟨gw, 0, none⟩) Y.length cw) ∧ w'.cell? ⟨gl, k, none⟩ = some (.slice av (C k).length c) ∧ w'.cell? ⟨gw, k, none⟩ = some (.slice ay (C k).length cy)) (go_keep)
        (first
          | (go_at_call 16; refine Calls.mono HSA.out ?_; rintro e w2 ⟨rfl, h2⟩; have hb2 := below_same h2; clear h2; have d0 := cell_kept hb2 HD0.out; have d1 := cell_kept hb2 HD1.out; have d2 := cell_kept hb2 HD2.out; have d3 := cell_kept hb2 HD3.out; have HB2 := hid (HBD.out.trans (hb2.mono HBD.out.size)); clear hb2))
      go_wp2_with fail
      go_roundw
      case rel => exact ⟨k + 1, hlt, by go_num, HB2.out⟩
      case measure => simp [intOf]; omega
    · have hki : ¬ (k : Int) < (vs.length : Int) := by omega
      have HB1 := hid HB.out
      clear HB HWC HW
      have c0 := cell_kept HB1.out hb0
      obtain ⟨w1, hw1⟩ : ∃ w1, w1 = wr := ⟨_, rfl⟩
      rw [← hw1] at HB1 c0 ⊢
      clear hw1
      go_wp2_with fail
      have HAS : Hid (LA B w1 vs (mk C 0 0)) := (HA.out.kept HB1.out).ext (fun j => (mk_zero C j).symm)
      have HGS := hid ((Gone.refl w vs).below HB1.out)
      have HBK := hid HH.out.head
      clear HB1 c0 HH
      go_loopw [43] (fun i wr => ∃ k : Nat, k ≤ vs.length ∧ i = .int .i64 k ∧ LA B wr vs (mk C k 0) ∧ Gone w wr vs) (fun i _ => vs.length - (intOf i).toNat)
      case atStart => exact ⟨0, Nat.zero_le _, rfl, HAS.out, HGS.out⟩
      case round =>
        obtain ⟨k, hk, rfl, hAk, hGk⟩ := hrel
        have HAK := hid hAk
        have HGK := hid hGk
        clear hAk hGk HAS HGS
        by_cases hlt : k < vs.length
        · have hki : (k : Int) < (vs.length : Int) := by omega
          have hk0 : (0 : Int) ≤ (k : Int) := by omega
          obtain ⟨gl, rfl, hgl, csl, hcsl⟩ := HLC.out k hlt
          have hr := HAK.out.row k hlt
          have hlenk : (mk C k 0 k).length = (C k).length := mk_len (fun _ => Nat.zero_le _)
          rw [hlenk] at hr
          obtain ⟨av, cv, hv⟩ := row_slice hr
          rw [hv] at hgl
          have HR := hid hr
          have HVK := hid hv
          have HCS := hid hcsl
          have HGL := hid hgl
          have c0 := HGK.out.cell HA.out HBK.out (by decide) hb0
          have c2 := HGK.out.cell HA.out HCS.out (by decide) hgl
          clear hr hv hlenk hcsl hgl
          go_wp2_with fail
          clear c0 c2
          go_loopw [54] (fun i wr => ∃ kk : Nat, kk ≤ (C k).length ∧ i = .int .i64 kk ∧ LA B wr vs (mk C k kk) ∧ Gone w wr vs) (fun i _ => (C k).length - (intOf i).toNat)
          case atStart => exact ⟨0, Nat.zero_le _, rfl, HAK.out, HGK.out⟩
          case round =>
            obtain ⟨kk, hkk, rfl, hAj, hGj⟩ := hrel
            have HAJ := hid hAj
            have HGJ := hid hGj
            clear hAj hGj HAK HGK
            by_cases hlt2 : kk < (C k).length
            · have hkki : (kk : Int) < ((C k).length : Int) := by omega
              have hkk0 : (0 : Int) ≤ (kk : Int) := by omega
              have hcl := HCL.out k hlt
              have hlj : (mk C k kk k).length = (C k).length := mk_len (fun _ => hkk)
              have hrj := HAJ.out.row k hlt
              rw [hlj] at hrj
              obtain ⟨g, c, hvg⟩ := own_some hrj (by omega)
              rw [HVK.out] at hvg
              simp only [Value.slice.injEq] at hvg
              obtain ⟨hav, _, hcv⟩ := hvg
              subst hav hcv
              have hvk := HVK.out
              have hob : (vs[k]).ownBlock = some g := by rw [hvk]; rfl
              have hbg : ¬ b = g := row_far (HA.out.row k hlt) hob HBK.out (by decide)
              have hlg : ¬ gl = g := row_far (HA.out.row k hlt) hob HCS.out (by decide)
              have c0 := HGJ.out.cell HA.out HBK.out (by decide) hb0
              have c2 := HGJ.out.cell HA.out HCS.out (by decide) HGL.out
              have hbd := below_drewN (Below.refl wr.heap.size wr) 1
              have HD0 := hid (cell_kept hbd c0)
              have HD2 := hid (cell_kept hbd c2)
              have HBD := hid hbd
              have HOB := hid hob
              have HLJ := hid hlj
              clear hbd hrj hvk hob hlj
              go_upto_region 13 with fail
              go_region_held3 (fun w' => w'.cell? ⟨b, 0, none⟩ = some (.slice (some ⟨gl, 0, none⟩) vs.length cl) ∧ w'.cell? ⟨gl, k, none⟩ = some (.slice (some ⟨g, 0, none⟩) (C k).length cv)) (go_keep)
                (first
                  | (go_at_call 60; refine (mark_any _ k kk (by omega) (by omega) k kk rfl rfl).mono ?_; rintro e w2 ⟨rfl, hb2⟩; have d0 := cell_kept hb2 HD0.out; have d2 := cell_kept hb2 HD2.out; have HA2 := hid ((HAJ.out.kept HBD.out).kept hb2); have HG2 := hid ((HGJ.out.below HBD.out).below hb2); have hr2 := HA2.out.row k hlt; rw [HLJ.out, HVK.out] at hr2; obtain ⟨y0, p0, p2⟩ := own_place hr2 HLJ.out kk (by have := HLJ.out; omega); have hpt := HA2.out.put hlt (g := g) (cap := cv) (by rw [HLJ.out]; exact HVK.out) (kk := kk) (by have := HLJ.out; omega) (markOf k kk); have z0 : (w2.setCell ⟨g, kk, none⟩ (.int .u8 (ub (markOf k kk)))).cell? ⟨b, 0, none⟩ = some (.slice (some ⟨gl, 0, none⟩) vs.length cl) := hpt.2.cell d0 (by simpa using hbg); have z2 : (w2.setCell ⟨g, kk, none⟩ (.int .u8 (ub (markOf k kk)))).cell? ⟨gl, k, none⟩ = some (.slice (some ⟨g, 0, none⟩) (C k).length cv) := hpt.2.cell d2 (by simpa using hlg); have HP2 := hid hpt; clear hb2 hr2 hpt))
              have HAF : Hid (LA B (w2.setCell ⟨g, kk, none⟩ (.int .u8 (ub (markOf k kk)))) vs (mk C k (kk + 1))) := HP2.out.1.ext (fun j => mk_put C k kk hlt2 j)
              have HGF : Hid (Gone w (w2.setCell ⟨g, kk, none⟩ (.int .u8 (ub (markOf k kk)))) vs) := HG2.out.grown HP2.out.2 (fun x hx => by simp only [Option.some.injEq] at hx; subst hx; exact .inr ⟨_, List.getElem_mem hlt, HOB.out⟩)
              clear HP2 HA2 HG2 z0 z2 d0 d2 p0 p2 HD0 HD2 HBD HAJ HGJ
              go_wp2_with fail
              go_roundw
              case rel => exact ⟨kk + 1, hlt2, by go_num, HAF.out, HGF.out⟩
              case measure => simp [intOf]; omega
            · have hkki : ¬ (kk : Int) < ((C k).length : Int) := by omega
              obtain rfl : kk = (C k).length := by omega
              have HAN : Hid (LA B wr vs (mk C (k + 1) 0)) := HAJ.out.ext (fun j => mk_next C k j)
              have HGN := hid HGJ.out
              clear HAJ HGJ
              go_wp2_with fail
              go_roundw
              case rel => exact ⟨k + 1, hlt, by go_num, HAN.out, HGN.out⟩
              case measure => simp [intOf]; omega
        · have hki : ¬ (k : Int) < (vs.length : Int) := by omega
          obtain rfl : k = vs.length := by omega
          have HAM := hid HAK.out
          have HGM := hid HGK.out
          clear HAK HGK
          obtain ⟨w4, hw4⟩ : ∃ w4, w4 = wr := ⟨_, rfl⟩
          rw [← hw4] at HAM HGM ⊢
          clear hw4
          have c0 := HGM.out.cell HA.out HBK.out (by decide) hb0
          go_wp2_with fail
          obtain ⟨i0, hi, hz0, hz1, hz2⟩ := info25
          have HMA : Hid (MA B w4.heap.size w4 vs [] C) := MA.start (HAM.out.ext2 (fun j hj => by unfold mk; rw [if_pos hj, fillL_all]))
          have HAP := hid HAM.out.apart
          have hsw := HGM.out.size
          clear HAM c0
          go_loopw [6, 76] (fun s6 i wr => ∃ (k : Nat) (ms : List Value), k ≤ vs.length ∧ i = .int .i64 k ∧ ms.length = k ∧ wr.ownsRow w4.heap.size 30 1 s6 ms.length ms ∧ MA B w4.heap.size wr vs ms C ∧ Gone w wr vs) (fun _ i _ => vs.length - (intOf i).toNat)
          case atStart => exact ⟨0, [], Nat.zero_le _, rfl, rfl, World.ownsRow_nil _ _ _ _, HMA.out, HGM.out⟩
          case round =>
            obtain ⟨k, ms, hk, rfl, hmk, hown, hMA, hGk⟩ := hrel
            have HOM := hid hown
            have HMK := hid hMA
            have HGK := hid hGk
            clear hown hMA hGk HMA HGM
            obtain ⟨mv, hmv⟩ : ∃ mv, mv = u6 := ⟨_, rfl⟩
            subst hmv
            by_cases hlt : k < vs.length
            · have hki : (k : Int) < (vs.length : Int) := by omega
              have hk0 : (0 : Int) ≤ (k : Int) := by omega
              have hcl := HCL.out k hlt
              obtain ⟨gl, rfl, hgl, csl, hcsl⟩ := HLC.out k hlt
              have hr := HMK.out.own k hlt (by omega)
              rw [moreL_len] at hr
              obtain ⟨av, cv, hv⟩ := row_slice hr
              rw [Nat.add_zero] at hv
              have c0 := HGK.out.cell HA.out HBK.out (by decide) hb0
              have c2 := HGK.out.cell HA.out hcsl (by decide) hgl
              rw [hv] at c2
              have HIN := hid (HMK.out.grow hmk.symm hlt)
              have HLOW := hid (fun x hx => Nat.lt_of_lt_of_le (HMK.out.low k hlt x hx) HMK.out.sz)
              rw [hv] at HIN HLOW
              obtain ⟨vk, HVK⟩ : ∃ vk, Hid (vk = Value.slice av (C k).length cv ∧ vs[k] = vk) := ⟨_, rfl, hv⟩
              rw [← HVK.out.1] at HIN HLOW
              have HIS : Hid (IN B wr wr vk k (C k).length 0 (.slice av (C k).length cv)) := by have := HIN.out; show IN _ _ _ _ _ _ _ _; rw [← HVK.out.1]; exact this
              clear hr hv hcsl hgl HIN
              obtain ⟨w5, hw5⟩ : ∃ w5, w5 = wr := ⟨_, rfl⟩
              rw [← hw5] at HOM HMK HGK HLOW HIS c0 c2 ⊢
              clear hw5
              go_wp2_with fail
              clear c0 c2
              go_loopw [8, 9] (fun gv s9 wr => ∃ kk : Nat, kk ≤ 70 ∧ s9 = .int .i64 kk ∧ IN B w5 wr vk k (C k).length kk gv) (fun _ i _ => 70 - (intOf i).toNat)
              case atStart => exact ⟨0, Nat.zero_le _, rfl, HIS.out⟩
              case round =>
                obtain ⟨kk, hkk, rfl, hIN⟩ := hrel
                have HI := hid hIN
                clear hIN HIS
                obtain ⟨a8, c8, e8, _⟩ := own_cells HI.out.own
                rw [moreL_len] at e8
                obtain ⟨gv, hgv⟩ : ∃ gv, gv = u8 := ⟨_, rfl⟩
                subst hgv
                subst e8
                by_cases hlt2 : kk < 70
                · have hkki : (kk : Int) < 70 := by omega
                  have hSp := fun W => mark_any W (k + 7) (kk + 3) (by omega) (by omega) ((k : Int) + 7) ((kk : Int) + 3) (by omega) (by omega)
                  have hw7 : IntKind.i64.wrap ((k : Int) + 7) = (k : Int) + 7 := by rw [IntKind.wrap_i64]; omega
                  have hw8 : IntKind.i64.wrap ((kk : Int) + 3) = (kk : Int) + 3 := by rw [IntKind.wrap_i64]; omega
                  go_wp2_with fail
                  refine (hSp _).mono ?_
                  rintro e w6 ⟨rfl, hb6⟩
                  have HOG : Hid (w6.ownsRow B 5 1 (.slice a8 ((C k).length + kk) c8) (moreL k (C k).length kk).length (bcells (moreL k (C k).length kk))) := own_below HI.out.own hb6
                  have HB6 := hid hb6
                  have hml : (moreL k (C k).length kk).length = (C k).length + kk := moreL_len _ _ _
                  have hB6 : B ≤ w6.heap.size := by have := HGK.out.size; have := HI.out.gone.size; have := hb6.size; omega
                  clear hb6 hSp
                  go_wp2_with (at_builtin; refine wpGrow rfl _ _ rfl (markOf (k + 7) (kk + 3)) rfl HOG.out rfl (by omega) hB6 ?_; intro v7 w7 ho7 hc7; have HIN7 := hid (HI.out.next HB6.out ho7 hc7); clear ho7 hc7)
                  go_roundw
                  case rel => exact ⟨kk + 1, by omega, by go_num, HIN7.out⟩
                  case measure => simp [intOf]; omega
                · have hkki : ¬ (kk : Int) < 70 := by omega
                  obtain rfl : kk = 70 := by omega
                  have HMN : Hid (MA B w4.heap.size wr vs (ms ++ [.slice a8 ((C k).length + 70) c8]) C) := HMK.out.next HAP.out hmk.symm hlt (by rw [HVK.out.2]; exact HI.out)
                  have HGN : Hid (Gone w wr vs) := HGK.out.one HI.out.gone (by rw [← HVK.out.2]; exact List.getElem_mem hlt)
                  have HOR : Hid (wr.ownsRow w4.heap.size 30 1 mv ms.length ms) := own_gone HOM.out HI.out.gone (fun x hx e => by have h1 := own_ge HOM.out hx; have h2 := HMK.out.low k hlt x (by rw [HVK.out.2]; exact e); omega)
                  have hs5 := HMN.out.sz
                  clear HI HMK HGK HOM HLOW
                  obtain ⟨am, cm, hmv⟩ := row_slice HOR.out
                  subst hmv
                  go_wp2_with (at_builtin; refine wpList_append_own_at _ rfl _ _ 44 rfl w4.heap.size 30 i0 (.slice none 0 0) 1 24 Tryd.underlying44 hi hz0 hz1 hz2 rfl (by decide) (.slice am ms.length cm) ms.length ms rfl (World.ownsRow.alloc HOR.out _) ⟨wr.heap.size, 0, none⟩ 1 1 [.slice a8 ((C k).length + 70) c8] rfl rfl (box_range wr 30 _) (fun u hu => by rw [List.mem_singleton.1 hu]; rfl) (by unfold maxLen; omega) (by omega) (by simp; omega) ?_; intro v8 w8 ho8 hg8 _ _; have HO8 := hid ho8; have HG8 := hid hg8; clear ho8 hg8)
                  have hg8 : (wr.alloc (.cells #[.slice a8 ((C k).length + 70) c8] 30)).grownBy w8 (Value.slice am ms.length cm).ownBlock := HG8.out
                  have HM8 : Hid (MA B w4.heap.size w8 vs (ms ++ [.slice a8 ((C k).length + 70) c8]) C) := (HMN.out.kept (below_box wr _)).far hg8 (fun g hg => ⟨own_ge HOR.out hg, fun _ => row_type (World.ownsRow.alloc HOR.out _) hg⟩)
                  have HGF : Hid (Gone w w8 vs) := (HGN.out.below (below_box wr _)).grown hg8 (fun g hg => .inl (by have := own_ge HOR.out hg; omega))
                  have HOF : Hid (w8.ownsRow w4.heap.size 30 1 v8 (ms ++ [Value.slice a8 ((C k).length + 70) c8]).length (ms ++ [Value.slice a8 ((C k).length + 70) c8])) := by show World.ownsRow _ _ _ _ _ _ _; rw [List.length_append]; exact HO8.out
                  clear HG8 hg8 HO8 HMN HGN HOR
                  go_wp2_with fail
                  go_roundw
                  case rel => exact ⟨k + 1, _, hlt, by go_num, by simp; omega, HOF.out, HM8.out, HGF.out⟩
                  case measure => simp [intOf]; omega
            · have hki : ¬ (k : Int) < (vs.length : Int) := by omega
              obtain rfl : k = vs.length := by omega
              obtain ⟨w9, hw9⟩ : ∃ w9, w9 = wr := ⟨_, rfl⟩
              rw [← hw9] at HOM HMK HGK ⊢
              clear hw9
              have c0 := HGK.out.cell HA.out HBK.out (by decide) hb0
              go_wp2_with fail
              obtain ⟨am, cm, hmv, hmc⟩ := hdr_cells HOM.out
              subst hmv
              have HMC := hid hmc
              rw [hmk]
              have HML := hid hmk
              clear c0 hmc hmk
              go_loopw [108] (fun i wr => ∃ k : Nat, k ≤ vs.length ∧ i = .int .i64 k ∧ Below w9.heap.size w9 wr) (fun i _ => vs.length - (intOf i).toNat)
              case atStart => exact ⟨0, Nat.zero_le _, rfl, Below.refl _ _⟩
              case round =>
                obtain ⟨k, hk, rfl, hb⟩ := hrel
                have HB := hid hb
                clear hb
                by_cases hlt : k < vs.length
                · have hki : (k : Int) < (vs.length : Int) := by omega
                  have hk0 : (0 : Int) ≤ (k : Int) := by omega
                  have hcl := HCL.out k hlt
                  obtain ⟨gl, rfl, hgl, csl, hcsl⟩ := HLC.out k hlt
                  obtain ⟨gm, rfl, hgm, _⟩ := HMC.out k (by have := HML.out; omega)
                  have hgot := HMK.out.got k (by have := HML.out; omega)
                  have hml : (moreL k (C k).length 70).length = (C k).length + 70 := moreL_len _ _ _
                  have hrv : ∃ av cv, vs[k] = .slice av (C k).length cv := row_slice (HA.out.row k hlt)
                  obtain ⟨av, cv, hv⟩ := hrv
                  obtain ⟨gx, cx, hgx⟩ := own_some hgot (by omega)
                  rw [hml] at hgx
                  have HMX := hid (fun kk (hkk : kk < (C k).length + 70) => own_byte (by rw [hgx, hml] at hgot; exact hgot) hml kk (by omega))
                  have HSE := hid (fun g (hg : av = some ⟨g, 0, none⟩) => HMK.out.see k hlt g _ _ (by rw [hv, hg]))
                  have d0 := HGK.out.cell HA.out HBK.out (by decide) hb0
                  have d2 := HGK.out.cell HA.out hcsl (by decide) hgl
                  have HSH : Hid (0 < (C k).length → ∃ g, av = some ⟨g, 0, none⟩) := fun hp => by
                    obtain ⟨g, c, e⟩ := own_some (HA.out.row k hlt) hp
                    rw [hv] at e
                    simp only [Value.slice.injEq] at e
                    exact ⟨g, e.1⟩
                  rw [hv] at d2
                  rw [hgx] at hgm
                  have c0 := cell_kept HB.out d0
                  have c2 := cell_kept HB.out d2
                  have c3 := cell_kept HB.out hgm
                  have HC0 := hid d0
                  have HC2 := hid d2
                  have HC3 := hid hgm
                  clear hgot hv hgx hgl hgm hcsl d0 d2
                  go_wp2_with fail
                  clear c0 c2 c3
                  go_loopw [124] (fun i wr => ∃ kk : Nat, kk ≤ (C k).length + 70 ∧ i = .int .i64 kk ∧ Below w9.heap.size w9 wr) (fun i _ => (C k).length + 70 - (intOf i).toNat)
                  case atStart => exact ⟨0, Nat.zero_le _, rfl, HB.out⟩
                  case round =>
                    obtain ⟨kk, hkk, rfl, hbj⟩ := hrel
                    have HBJ := hid hbj
                    clear hbj HB
                    by_cases hlt2 : kk < (C k).length + 70
                    · have hkki : (kk : Int) < ((C k).length : Int) + 70 := by omega
                      have hkki2 : (kk : Int) < (((C k).length + 70 : Nat) : Int) := by omega
                      have hkk0 : (0 : Int) ≤ (kk : Int) := by omega
                      have m0 := HMX.out kk hlt2
                      have c0 := cell_kept HBJ.out HC0.out
                      have c2 := cell_kept HBJ.out HC2.out
                      have c3 := cell_kept HBJ.out HC3.out
                      have hbd := below_drewN HBJ.out 1
                      have HD0 := hid (cell_kept hbd HC0.out)
                      have HD2 := hid (cell_kept hbd HC2.out)
                      have HD3 := hid (cell_kept hbd HC3.out)
                      have HBD := hid hbd
                      clear hbd
                      by_cases hin : kk < (C k).length
                      · have hdi : decide ((kk : Int) < ((C k).length : Int)) = true := decide_eq_true (by omega)
                        have HN : Hid (¬ (C k).length ≤ kk) := by show ¬ _; omega
                        obtain ⟨g, rfl⟩ := HSH.out (by omega)
                        have hlow := moreL_low k (C k).length 70 kk hin
                        rw [List.getElem?_eq_getElem (by omega)] at hlow
                        simp only [Option.some.injEq] at hlow
                        rw [hlow] at m0
                        have hlow0 := moreL_low k (C k).length 0 kk hin
                        have n0 : w9.cell? ⟨g, kk, none⟩ = some (.int .u8 (ub (markOf k kk))) := by
                          have hl0 : (moreL k (C k).length 0).length = (C k).length := moreL_len _ _ _
                          obtain ⟨g', o', e, h1⟩ := HSE.out g rfl kk (by omega)
                          cases e
                          rw [List.getElem?_eq_getElem (by omega)] at hlow0
                          simp only [Option.some.injEq] at hlow0
                          rw [hlow0, Nat.zero_add] at h1
                          exact h1
                        have q0 := cell_kept HBJ.out n0
                        have r0 := cell_kept HBJ.out m0
                        have HSp := hid (fun W => mark_any W k kk (by omega) (by omega) k kk rfl rfl)
                        clear n0 m0 hlow hlow0
                        generalize ub (markOf k kk) = sp at *
                        go_upto_region 34 with fail
                        have HH1 := hid (fun d os => Calls.regrown_of (HSp.out (grow (redrawn wr d) os)))
                        have k0 := cell_regrown c0
                        have k2 := cell_regrown c2
                        have k3 := cell_regrown c3
                        have k4 := cell_regrown q0
                        have k6 := cell_regrown r0
                        clear c0 c2 c3 q0 r0
                        go_cut [180] from 127 to 180 (fun s180 wx => s180 = .bool false ∧ Below wr.heap.size wr wx)
                        case first =>
                          refine wp_region_quiet_below (by kernel_rfl) (by kernel_rfl) ?_
                          iterate 37 (quiet_step (first | (go_at_call 60; exact HH1.out _ _)))
                          iterate 15 (refine wpQuiet_step (fun K hK => ?_); go_simp; rw [if_neg HN.out]; refine hK _ ?_; clear hK K)
                          refine wpQuiet_step (fun K hK => ?_)
                          go_simp
                          first | rw [if_neg HN.out] | skip
                          refine hK _ ?_
                          clear hK K
                          quiet_step (fail)
                          refine wpQuiet_nil ?_
                          intro _ hw'
                          obtain ⟨⟨dq, osq⟩, hw''⟩ := hw'
                          subst hw''
                          go_wp2_with fail
                          go_meet
                          exact ⟨rfl, below_regrown wr dq osq⟩
                        case rest =>
                          obtain ⟨rfl, hbc⟩ := hcut
                          have HBb := hid (HBJ.out.trans (hbc.mono HBJ.out.size))
                          clear hbc
                          go_wp2_with fail
                          go_roundw
                          case rel => exact ⟨kk + 1, hlt2, by go_num, HBb.out⟩
                          case measure => simp [intOf]; omega
                      · have HN : Hid (¬ kk < (C k).length) := by show ¬ _; omega
                        have hdg : decide (((C k).length : Int) ≤ (kk : Int)) = true := decide_eq_true (by omega)
                        have hhi := moreL_high k (C k).length 70 kk (by omega) hlt2
                        rw [List.getElem?_eq_getElem (by omega)] at hhi
                        simp only [Option.some.injEq] at hhi
                        rw [hhi] at m0
                        have r0 := cell_kept HBJ.out m0
                        have HSp := hid (fun W => mark_any W (k + 7) (kk - (C k).length + 3) (by omega) (by omega) ((k : Int) + 7) ((kk : Int) - ((C k).length : Int) + 3) (by omega) (by omega))
                        clear m0 hhi
                        generalize ub (markOf (k + 7) (kk - (C k).length + 3)) = sp at *
                        go_upto_region 34 with fail
                        have HH1 := hid (fun d os => Calls.regrown_of (HSp.out (grow (redrawn wr d) os)))
                        have k3 := cell_regrown c3
                        have k6 := cell_regrown r0
                        have HDG := hid hdg
                        clear c3 r0 hdg hin
                        go_cut [180] from 127 to 180 (fun s180 wx => s180 = .bool false ∧ Below wr.heap.size wr wx)
                        case first =>
                          refine wp_region_quiet_below (by kernel_rfl) (by kernel_rfl) ?_
                          have hdi : decide ((kk : Int) < ((C k).length : Int)) = false := decide_eq_false (by have := HN.out; omega)
                          have hin := HN.out
                          have hdn : decide (kk < (C k).length) = false := decide_eq_false hin
                          iterate 4 (quiet_step (fail))
                          clear hdi hin hdn
                          iterate 15 go_big_quiet_skip
                          iterate 12 go_big_quiet_skip
                          have hdg := HDG.out
                          have hle : (C k).length ≤ kk := Nat.le_of_not_lt HN.out
                          have hdm : decide ((C k).length ≤ kk) = true := decide_eq_true hle
                          iterate 6 (quiet_step (fail))
                          have hw0 : IntKind.i64.wrap ((k : Int) + 7) = (k : Int) + 7 := by rw [IntKind.wrap_i64]; omega
                          have hw1 : IntKind.i64.wrap ((kk : Int) - ((C k).length : Int)) = (kk : Int) - ((C k).length : Int) := by rw [IntKind.wrap_i64]; omega
                          have hw2 : IntKind.i64.wrap ((kk : Int) - ((C k).length : Int) + 3) = (kk : Int) - ((C k).length : Int) + 3 := by rw [IntKind.wrap_i64]; omega
                          clear hdg hle hdm
                          iterate 15 (quiet_step (first | (go_at_call 60; exact HH1.out _ _)))
                          iterate 2 (quiet_step (fail))
                          refine wpQuiet_nil ?_
                          intro _ hw'
                          obtain ⟨⟨dq, osq⟩, hw''⟩ := hw'
                          subst hw''
                          go_wp2_with fail
                          go_meet
                          exact ⟨rfl, below_regrown wr dq osq⟩
                        case rest =>
                          obtain ⟨rfl, hbc⟩ := hcut
                          have HBb := hid (HBJ.out.trans (hbc.mono HBJ.out.size))
                          clear hbc
                          go_wp2_with fail
                          go_roundw
                          case rel => exact ⟨kk + 1, hlt2, by go_num, HBb.out⟩
                          case measure => simp [intOf]; omega
                    · have hkki : ¬ (kk : Int) < ((C k).length : Int) + 70 := by omega
                      have hkki2 : ¬ (kk : Int) < (((C k).length + 70 : Nat) : Int) := by omega
                      go_wp2_with fail
                      go_roundw
                      case rel => exact ⟨k + 1, hlt, by go_num, HBJ.out⟩
                      case measure => simp [intOf]; omega
                · have hki : ¬ (k : Int) < (vs.length : Int) := by omega
                  have HGE := hid (HGK.out.below HB.out)
                  clear HGK HB
                  go_wp2_with fail
                  go_ret
                  exact ⟨rfl, HGE.out⟩
end Go.Proofs.YtfhjiggaacgncaaDoor.Tx
