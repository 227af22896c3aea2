import Derived.Test.YtkcoabjeaoigdabPl1
namespace Go.Proofs.Ytkcoabjeaoigdab
open Go.RowKit Go.Sort
set_option maxRecDepth 100000

/-- A script as a slice of calls. -/
structure OpsAt (w : World) (a : Option Addr) (S : List OpV) : Prop where
  at_ : ∀ k (h : k < S.length), ∃ g o, a = some ⟨g, o, none⟩ ∧ w.cell? ⟨g, o + k * 6, none⟩ = some (.int .i64 S[k].kind) ∧ w.cell? ⟨g, o + k * 6 + 1, none⟩ = some (.bool S[k].sec) ∧ w.cell? ⟨g, o + k * 6 + 2, none⟩ = some (.int .i64 S[k].path) ∧ w.cell? ⟨g, o + k * 6 + 3, none⟩ = some (.int .i64 S[k].n) ∧ w.cell? ⟨g, o + k * 6 + 4, none⟩ = some (.bool S[k].on) ∧ w.cell? ⟨g, o + k * 6 + 5, none⟩ = some (.int .u64 S[k].ms)
  ok : ∀ o ∈ S, o.Ok
def up2 {α : Type} (f : Bool → α) (c : Bool) (x : α) : Bool → α := fun d => if d = c then x else f d
theorem up2_at {α : Type} (f : Bool → α) (c : Bool) (x : α) : up2 f c x c = x := by unfold up2; rw [if_pos rfl]
theorem up2_off {α : Type} (f : Bool → α) (c d : Bool) (x : α) (h : d ≠ c) : up2 f c x d = f d := by unfold up2; rw [if_neg h]
theorem ne_of_ends {g : Bool → Nat} (h : g false ≠ g true) {c d : Bool} (hd : d ≠ c) : g d ≠ g c := by
  cases c <;> cases d <;> first | exact absurd rfl hd | exact h | exact h.symm
/-- Two of the program's groups, two of the document's. -/
structure Pl (W w : World) (g r q n : Bool → Nat) (D : Bool → Nat → Ln) : Prop where
  ga : ∀ c, GAt w (g c) (n c) (D c)
  ra : ∀ c, RAt w (r c) (q c) (n c) (D c)
  gge : ∀ c, W.heap.size ≤ g c
  qge : ∀ c, W.heap.size ≤ q c
  gne : g false ≠ g true
  qne : q false ≠ q true
  bel : Below W.heap.size W w
section
variable {W w w' : World} {g r q n : Bool → Nat} {D : Bool → Nat → Ln}
theorem Pl.kept (p : Pl W w g r q n D) (hb : Below w.heap.size w w') : Pl W w' g r q n D := ⟨fun c => (p.ga c).kept hb, fun c => (p.ra c).kept hb, p.gge, p.qge, p.gne, p.qne, p.bel.trans (hb.mono p.bel.size)⟩
theorem Pl.to (p : Pl W w g r q n D) (c : Bool) {X : Nat → Ln} (h1 : GAt w' (g c) (n c) X) (h2 : RAt w' (r c) (q c) (n c) X) (ho : Only [g c, q c] w w') : Pl W w' g r q n (up2 D c X) := by
  refine ⟨fun d => ?_, fun d => ?_, p.gge, p.qge, p.gne, p.qne, p.bel.trans (ho.below p.bel.size (fun x hx => ?_))⟩
  · by_cases hd : d = c
    · subst hd; rw [up2_at]; exact h1
    · rw [up2_off _ _ _ _ hd]
      refine (p.ga d).other ho ?_
      have e1 := ne_of_ends p.gne hd
      have e2 := ((p.ra c).ne_g (p.ga d)).2
      simp only [List.mem_cons, List.not_mem_nil, or_false, not_or]
      exact ⟨e1, e2.symm⟩
  · by_cases hd : d = c
    · subst hd; rw [up2_at]; exact h2
    · rw [up2_off _ _ _ _ hd]
      have e1 := (p.ra d).ne_g (p.ga c)
      have e2 := ne_of_ends p.qne hd
      have e3 : r d ≠ q c := by
        obtain ⟨⟨cap, h0⟩, _⟩ := p.ra d
        obtain ⟨_, ⟨cc, hr, _⟩, _⟩ := p.ra c
        exact h0.ne hr (by decide)
      refine (p.ra d).other ho ?_ ?_
      · simp only [List.mem_cons, List.not_mem_nil, or_false, not_or]
        exact ⟨e1.1, e3⟩
      · simp only [List.mem_cons, List.not_mem_nil, or_false, not_or]
        exact ⟨e1.2, e2⟩
  · simp only [List.mem_cons, List.not_mem_nil, or_false] at hx
    rcases hx with rfl | rfl
    · exact p.gge c
    · exact p.qge c
theorem Pl.do (p : Pl W w g r q n D) (c : Bool) {o : OpV} (ok : o.Ok) :
    Calls Try.prog 6 #[.pointer (some ⟨g c, 0, none⟩), .pointer (some ⟨r c, 0, none⟩), .agg #[.int .i64 o.kind, .bool o.sec, .int .i64 o.path, .int .i64 o.n, .bool o.on, .int .u64 o.ms]] w fun e w' => e = .returned (.bool true) ∧ Pl W w' g r q n (up2 D c (actD (D c) (n c) o)) :=
  (do_any (p.ga c) (p.ra c) ok).mono fun _ _ ⟨he, h1, h2, h3⟩ => ⟨he, p.to c h1 h2 h3⟩
theorem Pl.whole (p : Pl W w g r q n D) (c : Bool) : Calls Try.prog 7 #[.pointer (some ⟨g c, 0, none⟩), .pointer (some ⟨r c, 0, none⟩)] w fun e w' => e = .returned (.bool true) ∧ Pl W w' g r q n D :=
  (whole_any (p.ga c) (p.ra c)).mono fun _ _ ⟨he, h1⟩ => ⟨he, p.kept h1⟩
end
theorem pl_make {W w : World} {gA gB rA rB qA qB nA nB : Nat} (h1 : GAt w gA nA (newD nA)) (h2 : GAt w gB nB (newD nB)) (k1 : RAt w rA qA nA (newD nA)) (k2 : RAt w rB qB nB (newD nB)) (a1 : W.heap.size ≤ gA) (a2 : W.heap.size ≤ gB) (b1 : W.heap.size ≤ qA) (b2 : W.heap.size ≤ qB) (hg : gA ≠ gB) (hq : qA ≠ qB) (hb : Below W.heap.size W w) :
    ∃ g r q n D, g false = gA ∧ g true = gB ∧ r false = rA ∧ r true = rB ∧ Pl W w g r q n D :=
  ⟨fun c => if c then gB else gA, fun c => if c then rB else rA, fun c => if c then qB else qA, fun c => if c then nB else nA, fun c => if c then newD nB else newD nA, rfl, rfl, rfl, rfl,
    ⟨fun c => by cases c; exact h1; exact h2, fun c => by cases c; exact k1; exact k2, fun c => by cases c; exact a1; exact a2, fun c => by cases c; exact b1; exact b2, hg, hq, hb⟩⟩
/-- What stands while the groups are made: the document's, and what lies below. -/
structure Mq (W w : World) (r q n : Nat) : Prop where
  at_ : RAt w r q n (newD n)
  ge : W.heap.size ≤ q
  bel : Below W.heap.size W w
theorem Mq.kept {W w w' : World} {r q n : Nat} (h : Mq W w r q n) (hb : Below w.heap.size w w') : Mq W w' r q n := ⟨h.at_.kept hb, h.ge, h.bel.trans (hb.mono h.bel.size)⟩
theorem mq_new {W w : World} {n : Nat} (hb : Below W.heap.size W w) (h0 : 1 ≤ n) (h1 : n ≤ 8) : Calls Try.prog 4 #[.int .i64 n] w fun e w' => ∃ q, e = .returned (.pointer (some ⟨w.heap.size, 0, none⟩)) ∧ w.heap.size ≤ q ∧ Mq W w' w.heap.size q n ∧ Below w.heap.size w w' :=
  (rnew_in h0 h1).mono fun _ _ ⟨q, he, hq, h1, h2⟩ => ⟨q, he, hq, ⟨h1, Nat.le_trans hb.size hq, hb.trans (h2.mono hb.size)⟩, h2⟩
theorem in8 {a : Int} (h : 1 ≤ a ∧ a ≤ 8) : ∃ n : Nat, a = n ∧ 1 ≤ n ∧ n ≤ 8 := ⟨a.toNat, by omega, by omega, by omega⟩
set_option maxHeartbeats 2000000 in
theorem plays_any {w : World} {a b : Int} {sl : Option Addr} {ln cap : Nat} {S : List OpV} (hC : OpsAt w sl S) (hn : S.length = ln) (hm : ln ≤ 140737488355328) :
    Calls Try.prog 3 #[.int .i64 a, .int .i64 b, .slice sl ln cap] w fun e w' => e = .returned (.bool true) ∧ Below w.heap.size w w' := by
  have HC := hid hC
  have HN := hid hn
  clear hC hn
  by_cases ha : 1 ≤ a ∧ a ≤ 8
  · by_cases hb : 1 ≤ b ∧ b ≤ 8
    · skip
      obtain ⟨nA, rfl, a1, a8⟩ := in8 ha
      have HNR := hid (mq_new (Below.refl w.heap.size w) a1 a8)
      obtain ⟨nB, rfl, b1, b8⟩ := in8 hb
      go_enter Try.func3, Try.ntmps3
      go_upto_region 2 with (go_at_call 4; refine HNR.out.mono ?_; clear HNR; rintro e w1 ⟨qA, rfl, _, h1, _⟩; have HA := hid h1; clear h1)
      obtain ⟨rA, hrA⟩ : ∃ rA, rA = w.heap.size := ⟨_, rfl⟩
      rw [← hrA] at HA
      rw [← hrA]
      clear hrA
      have HNG := hid (new_in (w := w1) a1 a8)
      go_upto_region 7 with (go_at_call 5; refine HNG.out.mono ?_; clear HNG; rintro e w2 ⟨rfl, _, h2⟩; replace HA := hid (HA.out.kept h2); clear h2)
      refine wp_world fun wa HWW => ?_
      have hww : wa = _ := HWW.out
      rw [← hww] at HA
      clear hww HWW
      have HQA : Hid (qA < wa.heap.size) := HA.out.at_.lt.2
      have HNR := hid (mq_new HA.out.bel b1 b8)
      go_upto_region 8 with (go_at_call 4; refine HNR.out.mono ?_; clear HNR; rintro e w4 ⟨qB, rfl, hq, h1, h2⟩; have HB := hid h1; have HQB := hid hq; replace HA := hid (HA.out.kept h2); clear h1 h2 hq)
      obtain ⟨rB, hrB⟩ : ∃ rB, rB = wa.heap.size := ⟨_, rfl⟩
      rw [← hrB] at HB
      rw [← hrB]
      clear hrB
      have HQN : Hid (qA ≠ qB) := by have := HQA.out; have := HQB.out; show _ ≠ _; omega
      have HNG := hid (new_in (w := w4) b1 b8)
      go_upto_region 13 with (go_at_call 5; refine HNG.out.mono ?_; clear HNG; rintro e w5 ⟨rfl, _, h2⟩; replace HA := hid (HA.out.kept h2); replace HB := hid (HB.out.kept h2); clear h2)
      refine wp_world fun wb HWW => ?_
      have hww : wb = _ := HWW.out
      rw [← hww] at HA HB
      clear hww HWW HQA HQB
      have HNG : Hid (Calls Try.prog 5 #[.int .i64 nA] wb fun e w' => e = .returned (.pointer (some ⟨wb.heap.size, 0, none⟩)) ∧ GAt w' wb.heap.size nA (newD nA) ∧ Below wb.heap.size wb w') := new_in (n := nA) a1 a8
      have HAG : Hid (w.heap.size ≤ wb.heap.size) := HA.out.bel.size
      go_upto_region 14 with (go_at_call 5; refine HNG.out.mono ?_; clear HNG; rintro e w7 ⟨rfl, h1, h2⟩; have HGA := hid h1; replace HA := hid (HA.out.kept h2); replace HB := hid (HB.out.kept h2); clear h1 h2)
      obtain ⟨gA, hgA⟩ : ∃ gA, gA = wb.heap.size := ⟨_, rfl⟩
      rw [← hgA] at HGA HAG
      rw [← hgA]
      clear hgA
      have HNG : Hid (Calls Try.prog 5 #[.int .i64 nB] w7 fun e w' => e = .returned (.pointer (some ⟨w7.heap.size, 0, none⟩)) ∧ GAt w' w7.heap.size nB (newD nB) ∧ Below w7.heap.size w7 w') := new_in (n := nB) b1 b8
      have HBG : Hid (w.heap.size ≤ w7.heap.size) := HA.out.bel.size
      have HGN : Hid (gA ≠ w7.heap.size) := Nat.ne_of_lt HGA.out.lt
      go_upto_region 15 with (go_at_call 5; refine HNG.out.mono ?_; clear HNG; rintro e w8 ⟨rfl, h1, h2⟩; have HGB := hid h1; replace HGA := hid (HGA.out.kept h2); replace HA := hid (HA.out.kept h2); replace HB := hid (HB.out.kept h2); clear h1 h2)
      obtain ⟨gB, hgB⟩ : ∃ gB, gB = w7.heap.size := ⟨_, rfl⟩
      rw [← hgB] at HGB HBG HGN
      rw [← hgB]
      clear hgB
      obtain ⟨g, r, q, n, D0, hg0, hg1, hr0, hr1, hpl⟩ := pl_make HGA.out HGB.out HA.out.at_ HB.out.at_ HAG.out HBG.out HA.out.ge HB.out.ge HGN.out HQN.out HA.out.bel
      rw [← hg0, ← hg1, ← hr0, ← hr1]
      have HP := hid hpl
      clear hg0 hg1 hr0 hr1 hpl HGA HGB HA HB HAG HBG HGN HQN
      go_wp2
      go_loopw [11] (fun i wr => ∃ (k : Nat) (D : Bool → Nat → Ln), k ≤ ln ∧ i = .int .i64 k ∧ Pl w wr g r q n D) (fun i _ => ln - (intOf i).toNat)
      case atStart => exact ⟨0, _, Nat.zero_le _, rfl, HP.out⟩
      case round =>
        obtain ⟨k, D, hk, rfl, ho⟩ := hrel
        have HO' := hid ho
        clear ho HP
        by_cases hlt : k < ln
        · have hkc : k < S.length := by rw [HN.out]; exact hlt
          obtain ⟨ga, oa, rfl, c0, c1, c2, c3, c4, c5⟩ := HC.out.at_ k hkc
          have HOK := hid (HC.out.ok S[k] (List.getElem_mem hkc))
          have l1 : (k : Int) < (ln : Int) := by omega
          generalize S[k] = o at *
          have HC1 := hid c1
          have d0 := cell_kept HO'.out.bel c0
          have d1 := cell_kept HO'.out.bel c1
          have d2 := cell_kept HO'.out.bel c2
          have d3 := cell_kept HO'.out.bel c3
          have d4 := cell_kept HO'.out.bel c4
          have d5 := cell_kept HO'.out.bel c5
          have HK := hid hlt
          have hk2 : (k : Int) ≤ 140737488355328 := by omega
          clear c0 c1 c2 c3 c4 c5 hk hlt hkc
          cases hs : o.sec with
          | true =>
            have HDO := hid (HO'.out.do true HOK.out)
            rw [hs] at HDO d1 HC1
            clear hs
            go_wp2_with (go_at_call 6; refine HDO.out.mono ?_; clear HDO d0 d1 d2 d3 d4 d5; rintro e w3 ⟨rfl, h1⟩; have HO3 := hid h1; have d1 := cell_kept HO3.out.bel HC1.out; clear h1)
            go_roundw
            case rel => exact ⟨k + 1, _, HK.out, by first | go_num | (rw [Int.natCast_succ]), HO3.out⟩
            case measure =>
              simp [intOf]
              have := HK.out
              omega
          | false =>
            have HDO := hid (HO'.out.do false HOK.out)
            rw [hs] at HDO d1 HC1
            clear hs
            go_wp2_with (go_at_call 6; refine HDO.out.mono ?_; clear HDO d0 d1 d2 d3 d4 d5; rintro e w3 ⟨rfl, h1⟩; have HO3 := hid h1; clear h1)
            go_roundw
            case rel => exact ⟨k + 1, _, HK.out, by first | go_num | (rw [Int.natCast_succ]), HO3.out⟩
            case measure =>
              simp [intOf]
              have := HK.out
              omega
        · have e1 : decide ((k : Int) < (ln : Int)) = false := decide_eq_false (by omega)
          have e2 : decide (k < ln) = false := decide_eq_false hlt
          have HW1 := hid (HO'.out.whole false)
          clear hlt hk
          go_wp2_with (first
            | (go_at_call 7; refine HW1.out.mono ?_; clear HW1; rintro e w5 ⟨rfl, h1⟩; have HO5 := hid h1; have HW2 := hid (HO5.out.whole true); clear h1)
            | (go_at_call 7; refine HW2.out.mono ?_; clear HW2; rintro e w6 ⟨rfl, h1⟩; have HO6 := hid h1; clear h1))
          go_ret
          exact ⟨rfl, HO6.out.bel⟩
    · skip
      obtain ⟨nA, rfl, a1, a8⟩ := in8 ha
      have HNR := hid (mq_new (Below.refl w.heap.size w) a1 a8)
      go_enter Try.func3, Try.ntmps3
      go_upto_region 2 with (go_at_call 4; refine HNR.out.mono ?_; clear HNR; rintro e w1 ⟨qA, rfl, _, h1, _⟩; have HA := hid h1; clear h1)
      obtain ⟨rA, hrA⟩ : ∃ rA, rA = w.heap.size := ⟨_, rfl⟩
      rw [← hrA] at HA
      rw [← hrA]
      clear hrA
      have HNG := hid (new_in (w := w1) a1 a8)
      go_upto_region 7 with (go_at_call 5; refine HNG.out.mono ?_; clear HNG; rintro e w2 ⟨rfl, _, h2⟩; replace HA := hid (HA.out.kept h2); clear h2)
      refine wp_world fun wa HWW => ?_
      have hww : wa = _ := HWW.out
      rw [← hww] at HA
      clear hww HWW
      have HQA : Hid (qA < wa.heap.size) := HA.out.at_.lt.2
      have HNR := hid (rnew_out (w := wa) (n := b) (by omega))
      have HNG := hid (new_out (w := wa) (n := b) (by omega))
      have HA0 := hid HA.out
      go_upto_region 12 with (first | (go_at_call 4; refine HNR.out.mono ?_; clear HNR; rintro e w4 ⟨rfl, rfl⟩) | (go_at_call 5; refine HNG.out.mono ?_; clear HNG; rintro e w5 ⟨rfl, rfl⟩))
      clear HA0
      have HNR : Hid (Calls Try.prog 4 #[.int .i64 3] w5 fun e w'' => ∃ q, e = .returned (.pointer (some ⟨w5.heap.size, 0, none⟩)) ∧ w5.heap.size ≤ q ∧ Mq w w'' w5.heap.size q 3 ∧ Below w5.heap.size w5 w'') := mq_new (n := 3) HA.out.bel (by decide) (by decide)
      go_upto_region 13 with (go_at_call 4; refine HNR.out.mono ?_; clear HNR; rintro e w6 ⟨qB, rfl, hq, h1, h2⟩; have HB := hid h1; have HQB := hid hq; replace HA := hid (HA.out.kept h2); clear h1 h2 hq)
      obtain ⟨rB, hrB⟩ : ∃ rB, rB = w5.heap.size := ⟨_, rfl⟩
      rw [← hrB] at HB
      rw [← hrB]
      clear hrB
      have HQN : Hid (qA ≠ qB) := by have := HQA.out; have := HQB.out; show _ ≠ _; omega
      refine wp_world fun wb HWW => ?_
      have hww : wb = _ := HWW.out
      rw [← hww] at HA HB
      clear hww HWW HQA HQB
      have HNG : Hid (Calls Try.prog 5 #[.int .i64 nA] wb fun e w' => e = .returned (.pointer (some ⟨wb.heap.size, 0, none⟩)) ∧ GAt w' wb.heap.size nA (newD nA) ∧ Below wb.heap.size wb w') := new_in (n := nA) a1 a8
      have HAG : Hid (w.heap.size ≤ wb.heap.size) := HA.out.bel.size
      go_upto_region 14 with (go_at_call 5; refine HNG.out.mono ?_; clear HNG; rintro e w7 ⟨rfl, h1, h2⟩; have HGA := hid h1; replace HA := hid (HA.out.kept h2); replace HB := hid (HB.out.kept h2); clear h1 h2)
      obtain ⟨gA, hgA⟩ : ∃ gA, gA = wb.heap.size := ⟨_, rfl⟩
      rw [← hgA] at HGA HAG
      rw [← hgA]
      clear hgA
      have HNG : Hid (Calls Try.prog 5 #[.int .i64 3] w7 fun e w' => e = .returned (.pointer (some ⟨w7.heap.size, 0, none⟩)) ∧ GAt w' w7.heap.size 3 (newD 3) ∧ Below w7.heap.size w7 w') := new_in (n := 3) (by decide) (by decide)
      have HBG : Hid (w.heap.size ≤ w7.heap.size) := HA.out.bel.size
      have HGN : Hid (gA ≠ w7.heap.size) := Nat.ne_of_lt HGA.out.lt
      go_upto_region 15 with (go_at_call 5; refine HNG.out.mono ?_; clear HNG; rintro e w8 ⟨rfl, h1, h2⟩; have HGB := hid h1; replace HGA := hid (HGA.out.kept h2); replace HA := hid (HA.out.kept h2); replace HB := hid (HB.out.kept h2); clear h1 h2)
      obtain ⟨gB, hgB⟩ : ∃ gB, gB = w7.heap.size := ⟨_, rfl⟩
      rw [← hgB] at HGB HBG HGN
      rw [← hgB]
      clear hgB
      obtain ⟨g, r, q, n, D0, hg0, hg1, hr0, hr1, hpl⟩ := pl_make HGA.out HGB.out HA.out.at_ HB.out.at_ HAG.out HBG.out HA.out.ge HB.out.ge HGN.out HQN.out HA.out.bel
      rw [← hg0, ← hg1, ← hr0, ← hr1]
      have HP := hid hpl
      clear hg0 hg1 hr0 hr1 hpl HGA HGB HA HB HAG HBG HGN HQN
      go_wp2
      go_loopw [11] (fun i wr => ∃ (k : Nat) (D : Bool → Nat → Ln), k ≤ ln ∧ i = .int .i64 k ∧ Pl w wr g r q n D) (fun i _ => ln - (intOf i).toNat)
      case atStart => exact ⟨0, _, Nat.zero_le _, rfl, HP.out⟩
      case round =>
        obtain ⟨k, D, hk, rfl, ho⟩ := hrel
        have HO' := hid ho
        clear ho HP
        by_cases hlt : k < ln
        · have hkc : k < S.length := by rw [HN.out]; exact hlt
          obtain ⟨ga, oa, rfl, c0, c1, c2, c3, c4, c5⟩ := HC.out.at_ k hkc
          have HOK := hid (HC.out.ok S[k] (List.getElem_mem hkc))
          have l1 : (k : Int) < (ln : Int) := by omega
          generalize S[k] = o at *
          have HC1 := hid c1
          have d0 := cell_kept HO'.out.bel c0
          have d1 := cell_kept HO'.out.bel c1
          have d2 := cell_kept HO'.out.bel c2
          have d3 := cell_kept HO'.out.bel c3
          have d4 := cell_kept HO'.out.bel c4
          have d5 := cell_kept HO'.out.bel c5
          have HK := hid hlt
          have hk2 : (k : Int) ≤ 140737488355328 := by omega
          clear c0 c1 c2 c3 c4 c5 hk hlt hkc
          cases hs : o.sec with
          | true =>
            have HDO := hid (HO'.out.do true HOK.out)
            rw [hs] at HDO d1 HC1
            clear hs
            go_wp2_with (go_at_call 6; refine HDO.out.mono ?_; clear HDO d0 d1 d2 d3 d4 d5; rintro e w3 ⟨rfl, h1⟩; have HO3 := hid h1; have d1 := cell_kept HO3.out.bel HC1.out; clear h1)
            go_roundw
            case rel => exact ⟨k + 1, _, HK.out, by first | go_num | (rw [Int.natCast_succ]), HO3.out⟩
            case measure =>
              simp [intOf]
              have := HK.out
              omega
          | false =>
            have HDO := hid (HO'.out.do false HOK.out)
            rw [hs] at HDO d1 HC1
            clear hs
            go_wp2_with (go_at_call 6; refine HDO.out.mono ?_; clear HDO d0 d1 d2 d3 d4 d5; rintro e w3 ⟨rfl, h1⟩; have HO3 := hid h1; clear h1)
            go_roundw
            case rel => exact ⟨k + 1, _, HK.out, by first | go_num | (rw [Int.natCast_succ]), HO3.out⟩
            case measure =>
              simp [intOf]
              have := HK.out
              omega
        · have e1 : decide ((k : Int) < (ln : Int)) = false := decide_eq_false (by omega)
          have e2 : decide (k < ln) = false := decide_eq_false hlt
          have HW1 := hid (HO'.out.whole false)
          clear hlt hk
          go_wp2_with (first
            | (go_at_call 7; refine HW1.out.mono ?_; clear HW1; rintro e w5 ⟨rfl, h1⟩; have HO5 := hid h1; have HW2 := hid (HO5.out.whole true); clear h1)
            | (go_at_call 7; refine HW2.out.mono ?_; clear HW2; rintro e w6 ⟨rfl, h1⟩; have HO6 := hid h1; clear h1))
          go_ret
          exact ⟨rfl, HO6.out.bel⟩
  · by_cases hb : 1 ≤ b ∧ b ≤ 8
    · skip
      have HNR := hid (rnew_out (w := w) (n := a) (by omega))
      have HNG := hid (new_out (w := w) (n := a) (by omega))
      have HNQ : Hid (∀ w' : World, Below w.heap.size w w' → Calls Try.prog 4 #[.int .i64 2] w' fun e w'' => ∃ q, e = .returned (.pointer (some ⟨w'.heap.size, 0, none⟩)) ∧ w'.heap.size ≤ q ∧ Mq w w'' w'.heap.size q 2 ∧ Below w'.heap.size w' w'') := fun w' h => mq_new (n := 2) h (by decide) (by decide)
      obtain ⟨nB, rfl, b1, b8⟩ := in8 hb
      go_enter Try.func3, Try.ntmps3
      go_upto_region 6 with (first | (go_at_call 4; refine HNR.out.mono ?_; clear HNR; rintro e w1 ⟨rfl, rfl⟩) | (go_at_call 5; refine HNG.out.mono ?_; clear HNG; rintro e w2 ⟨rfl, rfl⟩))
      have HNR := hid (HNQ.out w2 (Below.refl _ _))
      clear HNQ
      go_upto_region 7 with (go_at_call 4; refine HNR.out.mono ?_; clear HNR; rintro e w3 ⟨qA, rfl, _, h1, _⟩; have HA := hid h1; clear h1)
      obtain ⟨rA, hrA⟩ : ∃ rA, rA = w2.heap.size := ⟨_, rfl⟩
      rw [← hrA] at HA
      rw [← hrA]
      clear hrA
      refine wp_world fun wa HWW => ?_
      have hww : wa = _ := HWW.out
      rw [← hww] at HA
      clear hww HWW
      have HQA : Hid (qA < wa.heap.size) := HA.out.at_.lt.2
      have HNR := hid (mq_new HA.out.bel b1 b8)
      go_upto_region 8 with (go_at_call 4; refine HNR.out.mono ?_; clear HNR; rintro e w4 ⟨qB, rfl, hq, h1, h2⟩; have HB := hid h1; have HQB := hid hq; replace HA := hid (HA.out.kept h2); clear h1 h2 hq)
      obtain ⟨rB, hrB⟩ : ∃ rB, rB = wa.heap.size := ⟨_, rfl⟩
      rw [← hrB] at HB
      rw [← hrB]
      clear hrB
      have HQN : Hid (qA ≠ qB) := by have := HQA.out; have := HQB.out; show _ ≠ _; omega
      have HNG := hid (new_in (w := w4) b1 b8)
      go_upto_region 13 with (go_at_call 5; refine HNG.out.mono ?_; clear HNG; rintro e w5 ⟨rfl, _, h2⟩; replace HA := hid (HA.out.kept h2); replace HB := hid (HB.out.kept h2); clear h2)
      refine wp_world fun wb HWW => ?_
      have hww : wb = _ := HWW.out
      rw [← hww] at HA HB
      clear hww HWW HQA HQB
      have HNG : Hid (Calls Try.prog 5 #[.int .i64 2] wb fun e w' => e = .returned (.pointer (some ⟨wb.heap.size, 0, none⟩)) ∧ GAt w' wb.heap.size 2 (newD 2) ∧ Below wb.heap.size wb w') := new_in (n := 2) (by decide) (by decide)
      have HAG : Hid (w2.heap.size ≤ wb.heap.size) := HA.out.bel.size
      go_upto_region 14 with (go_at_call 5; refine HNG.out.mono ?_; clear HNG; rintro e w7 ⟨rfl, h1, h2⟩; have HGA := hid h1; replace HA := hid (HA.out.kept h2); replace HB := hid (HB.out.kept h2); clear h1 h2)
      obtain ⟨gA, hgA⟩ : ∃ gA, gA = wb.heap.size := ⟨_, rfl⟩
      rw [← hgA] at HGA HAG
      rw [← hgA]
      clear hgA
      have HNG : Hid (Calls Try.prog 5 #[.int .i64 nB] w7 fun e w' => e = .returned (.pointer (some ⟨w7.heap.size, 0, none⟩)) ∧ GAt w' w7.heap.size nB (newD nB) ∧ Below w7.heap.size w7 w') := new_in (n := nB) b1 b8
      have HBG : Hid (w2.heap.size ≤ w7.heap.size) := HA.out.bel.size
      have HGN : Hid (gA ≠ w7.heap.size) := Nat.ne_of_lt HGA.out.lt
      go_upto_region 15 with (go_at_call 5; refine HNG.out.mono ?_; clear HNG; rintro e w8 ⟨rfl, h1, h2⟩; have HGB := hid h1; replace HGA := hid (HGA.out.kept h2); replace HA := hid (HA.out.kept h2); replace HB := hid (HB.out.kept h2); clear h1 h2)
      obtain ⟨gB, hgB⟩ : ∃ gB, gB = w7.heap.size := ⟨_, rfl⟩
      rw [← hgB] at HGB HBG HGN
      rw [← hgB]
      clear hgB
      obtain ⟨g, r, q, n, D0, hg0, hg1, hr0, hr1, hpl⟩ := pl_make HGA.out HGB.out HA.out.at_ HB.out.at_ HAG.out HBG.out HA.out.ge HB.out.ge HGN.out HQN.out HA.out.bel
      rw [← hg0, ← hg1, ← hr0, ← hr1]
      have HP := hid hpl
      clear hg0 hg1 hr0 hr1 hpl HGA HGB HA HB HAG HBG HGN HQN
      go_wp2
      go_loopw [11] (fun i wr => ∃ (k : Nat) (D : Bool → Nat → Ln), k ≤ ln ∧ i = .int .i64 k ∧ Pl w2 wr g r q n D) (fun i _ => ln - (intOf i).toNat)
      case atStart => exact ⟨0, _, Nat.zero_le _, rfl, HP.out⟩
      case round =>
        obtain ⟨k, D, hk, rfl, ho⟩ := hrel
        have HO' := hid ho
        clear ho HP
        by_cases hlt : k < ln
        · have hkc : k < S.length := by rw [HN.out]; exact hlt
          obtain ⟨ga, oa, rfl, c0, c1, c2, c3, c4, c5⟩ := HC.out.at_ k hkc
          have HOK := hid (HC.out.ok S[k] (List.getElem_mem hkc))
          have l1 : (k : Int) < (ln : Int) := by omega
          generalize S[k] = o at *
          have HC1 := hid c1
          have d0 := cell_kept HO'.out.bel c0
          have d1 := cell_kept HO'.out.bel c1
          have d2 := cell_kept HO'.out.bel c2
          have d3 := cell_kept HO'.out.bel c3
          have d4 := cell_kept HO'.out.bel c4
          have d5 := cell_kept HO'.out.bel c5
          have HK := hid hlt
          have hk2 : (k : Int) ≤ 140737488355328 := by omega
          clear c0 c1 c2 c3 c4 c5 hk hlt hkc
          cases hs : o.sec with
          | true =>
            have HDO := hid (HO'.out.do true HOK.out)
            rw [hs] at HDO d1 HC1
            clear hs
            go_wp2_with (go_at_call 6; refine HDO.out.mono ?_; clear HDO d0 d1 d2 d3 d4 d5; rintro e w3 ⟨rfl, h1⟩; have HO3 := hid h1; have d1 := cell_kept HO3.out.bel HC1.out; clear h1)
            go_roundw
            case rel => exact ⟨k + 1, _, HK.out, by first | go_num | (rw [Int.natCast_succ]), HO3.out⟩
            case measure =>
              simp [intOf]
              have := HK.out
              omega
          | false =>
            have HDO := hid (HO'.out.do false HOK.out)
            rw [hs] at HDO d1 HC1
            clear hs
            go_wp2_with (go_at_call 6; refine HDO.out.mono ?_; clear HDO d0 d1 d2 d3 d4 d5; rintro e w3 ⟨rfl, h1⟩; have HO3 := hid h1; clear h1)
            go_roundw
            case rel => exact ⟨k + 1, _, HK.out, by first | go_num | (rw [Int.natCast_succ]), HO3.out⟩
            case measure =>
              simp [intOf]
              have := HK.out
              omega
        · have e1 : decide ((k : Int) < (ln : Int)) = false := decide_eq_false (by omega)
          have e2 : decide (k < ln) = false := decide_eq_false hlt
          have HW1 := hid (HO'.out.whole false)
          clear hlt hk
          go_wp2_with (first
            | (go_at_call 7; refine HW1.out.mono ?_; clear HW1; rintro e w5 ⟨rfl, h1⟩; have HO5 := hid h1; have HW2 := hid (HO5.out.whole true); clear h1)
            | (go_at_call 7; refine HW2.out.mono ?_; clear HW2; rintro e w6 ⟨rfl, h1⟩; have HO6 := hid h1; clear h1))
          go_ret
          exact ⟨rfl, HO6.out.bel⟩
    · skip
      have HNR := hid (rnew_out (w := w) (n := a) (by omega))
      have HNG := hid (new_out (w := w) (n := a) (by omega))
      have HNQ : Hid (∀ w' : World, Below w.heap.size w w' → Calls Try.prog 4 #[.int .i64 2] w' fun e w'' => ∃ q, e = .returned (.pointer (some ⟨w'.heap.size, 0, none⟩)) ∧ w'.heap.size ≤ q ∧ Mq w w'' w'.heap.size q 2 ∧ Below w'.heap.size w' w'') := fun w' h => mq_new (n := 2) h (by decide) (by decide)
      go_enter Try.func3, Try.ntmps3
      go_upto_region 6 with (first | (go_at_call 4; refine HNR.out.mono ?_; clear HNR; rintro e w1 ⟨rfl, rfl⟩) | (go_at_call 5; refine HNG.out.mono ?_; clear HNG; rintro e w2 ⟨rfl, rfl⟩))
      have HNR := hid (HNQ.out w2 (Below.refl _ _))
      clear HNQ
      go_upto_region 7 with (go_at_call 4; refine HNR.out.mono ?_; clear HNR; rintro e w3 ⟨qA, rfl, _, h1, _⟩; have HA := hid h1; clear h1)
      obtain ⟨rA, hrA⟩ : ∃ rA, rA = w2.heap.size := ⟨_, rfl⟩
      rw [← hrA] at HA
      rw [← hrA]
      clear hrA
      refine wp_world fun wa HWW => ?_
      have hww : wa = _ := HWW.out
      rw [← hww] at HA
      clear hww HWW
      have HQA : Hid (qA < wa.heap.size) := HA.out.at_.lt.2
      have HNR := hid (rnew_out (w := wa) (n := b) (by omega))
      have HNG := hid (new_out (w := wa) (n := b) (by omega))
      have HA0 := hid HA.out
      go_upto_region 12 with (first | (go_at_call 4; refine HNR.out.mono ?_; clear HNR; rintro e w4 ⟨rfl, rfl⟩) | (go_at_call 5; refine HNG.out.mono ?_; clear HNG; rintro e w5 ⟨rfl, rfl⟩))
      clear HA0
      have HNR : Hid (Calls Try.prog 4 #[.int .i64 3] w5 fun e w'' => ∃ q, e = .returned (.pointer (some ⟨w5.heap.size, 0, none⟩)) ∧ w5.heap.size ≤ q ∧ Mq w2 w'' w5.heap.size q 3 ∧ Below w5.heap.size w5 w'') := mq_new (n := 3) HA.out.bel (by decide) (by decide)
      go_upto_region 13 with (go_at_call 4; refine HNR.out.mono ?_; clear HNR; rintro e w6 ⟨qB, rfl, hq, h1, h2⟩; have HB := hid h1; have HQB := hid hq; replace HA := hid (HA.out.kept h2); clear h1 h2 hq)
      obtain ⟨rB, hrB⟩ : ∃ rB, rB = w5.heap.size := ⟨_, rfl⟩
      rw [← hrB] at HB
      rw [← hrB]
      clear hrB
      have HQN : Hid (qA ≠ qB) := by have := HQA.out; have := HQB.out; show _ ≠ _; omega
      refine wp_world fun wb HWW => ?_
      have hww : wb = _ := HWW.out
      rw [← hww] at HA HB
      clear hww HWW HQA HQB
      have HNG : Hid (Calls Try.prog 5 #[.int .i64 2] wb fun e w' => e = .returned (.pointer (some ⟨wb.heap.size, 0, none⟩)) ∧ GAt w' wb.heap.size 2 (newD 2) ∧ Below wb.heap.size wb w') := new_in (n := 2) (by decide) (by decide)
      have HAG : Hid (w2.heap.size ≤ wb.heap.size) := HA.out.bel.size
      go_upto_region 14 with (go_at_call 5; refine HNG.out.mono ?_; clear HNG; rintro e w7 ⟨rfl, h1, h2⟩; have HGA := hid h1; replace HA := hid (HA.out.kept h2); replace HB := hid (HB.out.kept h2); clear h1 h2)
      obtain ⟨gA, hgA⟩ : ∃ gA, gA = wb.heap.size := ⟨_, rfl⟩
      rw [← hgA] at HGA HAG
      rw [← hgA]
      clear hgA
      have HNG : Hid (Calls Try.prog 5 #[.int .i64 3] w7 fun e w' => e = .returned (.pointer (some ⟨w7.heap.size, 0, none⟩)) ∧ GAt w' w7.heap.size 3 (newD 3) ∧ Below w7.heap.size w7 w') := new_in (n := 3) (by decide) (by decide)
      have HBG : Hid (w2.heap.size ≤ w7.heap.size) := HA.out.bel.size
      have HGN : Hid (gA ≠ w7.heap.size) := Nat.ne_of_lt HGA.out.lt
      go_upto_region 15 with (go_at_call 5; refine HNG.out.mono ?_; clear HNG; rintro e w8 ⟨rfl, h1, h2⟩; have HGB := hid h1; replace HGA := hid (HGA.out.kept h2); replace HA := hid (HA.out.kept h2); replace HB := hid (HB.out.kept h2); clear h1 h2)
      obtain ⟨gB, hgB⟩ : ∃ gB, gB = w7.heap.size := ⟨_, rfl⟩
      rw [← hgB] at HGB HBG HGN
      rw [← hgB]
      clear hgB
      obtain ⟨g, r, q, n, D0, hg0, hg1, hr0, hr1, hpl⟩ := pl_make HGA.out HGB.out HA.out.at_ HB.out.at_ HAG.out HBG.out HA.out.ge HB.out.ge HGN.out HQN.out HA.out.bel
      rw [← hg0, ← hg1, ← hr0, ← hr1]
      have HP := hid hpl
      clear hg0 hg1 hr0 hr1 hpl HGA HGB HA HB HAG HBG HGN HQN
      go_wp2
      go_loopw [11] (fun i wr => ∃ (k : Nat) (D : Bool → Nat → Ln), k ≤ ln ∧ i = .int .i64 k ∧ Pl w2 wr g r q n D) (fun i _ => ln - (intOf i).toNat)
      case atStart => exact ⟨0, _, Nat.zero_le _, rfl, HP.out⟩
      case round =>
        obtain ⟨k, D, hk, rfl, ho⟩ := hrel
        have HO' := hid ho
        clear ho HP
        by_cases hlt : k < ln
        · have hkc : k < S.length := by rw [HN.out]; exact hlt
          obtain ⟨ga, oa, rfl, c0, c1, c2, c3, c4, c5⟩ := HC.out.at_ k hkc
          have HOK := hid (HC.out.ok S[k] (List.getElem_mem hkc))
          have l1 : (k : Int) < (ln : Int) := by omega
          generalize S[k] = o at *
          have HC1 := hid c1
          have d0 := cell_kept HO'.out.bel c0
          have d1 := cell_kept HO'.out.bel c1
          have d2 := cell_kept HO'.out.bel c2
          have d3 := cell_kept HO'.out.bel c3
          have d4 := cell_kept HO'.out.bel c4
          have d5 := cell_kept HO'.out.bel c5
          have HK := hid hlt
          have hk2 : (k : Int) ≤ 140737488355328 := by omega
          clear c0 c1 c2 c3 c4 c5 hk hlt hkc
          cases hs : o.sec with
          | true =>
            have HDO := hid (HO'.out.do true HOK.out)
            rw [hs] at HDO d1 HC1
            clear hs
            go_wp2_with (go_at_call 6; refine HDO.out.mono ?_; clear HDO d0 d1 d2 d3 d4 d5; rintro e w3 ⟨rfl, h1⟩; have HO3 := hid h1; have d1 := cell_kept HO3.out.bel HC1.out; clear h1)
            go_roundw
            case rel => exact ⟨k + 1, _, HK.out, by first | go_num | (rw [Int.natCast_succ]), HO3.out⟩
            case measure =>
              simp [intOf]
              have := HK.out
              omega
          | false =>
            have HDO := hid (HO'.out.do false HOK.out)
            rw [hs] at HDO d1 HC1
            clear hs
            go_wp2_with (go_at_call 6; refine HDO.out.mono ?_; clear HDO d0 d1 d2 d3 d4 d5; rintro e w3 ⟨rfl, h1⟩; have HO3 := hid h1; clear h1)
            go_roundw
            case rel => exact ⟨k + 1, _, HK.out, by first | go_num | (rw [Int.natCast_succ]), HO3.out⟩
            case measure =>
              simp [intOf]
              have := HK.out
              omega
        · have e1 : decide ((k : Int) < (ln : Int)) = false := decide_eq_false (by omega)
          have e2 : decide (k < ln) = false := decide_eq_false hlt
          have HW1 := hid (HO'.out.whole false)
          clear hlt hk
          go_wp2_with (first
            | (go_at_call 7; refine HW1.out.mono ?_; clear HW1; rintro e w5 ⟨rfl, h1⟩; have HO5 := hid h1; have HW2 := hid (HO5.out.whole true); clear h1)
            | (go_at_call 7; refine HW2.out.mono ?_; clear HW2; rintro e w6 ⟨rfl, h1⟩; have HO6 := hid h1; clear h1))
          go_ret
          exact ⟨rfl, HO6.out.bel⟩
end Go.Proofs.Ytkcoabjeaoigdab
