import Derived.Test.YtkhogbnoincbeabSc3
import Derived.Shelf.Abstract
namespace Go.Proofs.Ytkhogbnoincbeab
open Go.RowKit Go.Maps Go.Sort
set_option maxRecDepth 100000

/-- One field read. -/
def readF (f : Nat) (F : PF) (l : List (BitVec 8)) : Int × PF × List (BitVec 8) := if f = 32 then strD F l else if f = 34 then clsD F l else if f = 36 then shrD F l else if f = 38 then dataD F l else nD F l
def fitB (f : Nat) (F : PF) : Bool := if f = 33 then decide (Nmd F.s) else if f = 35 then decide (Cls F.c) else if f = 37 then decide (Shr F.h) else if f = 39 then decide (Fill F.bs.length) else true
def allD : List (Nat × Nat) → PF → List (BitVec 8) → Int × PF × List (BitVec 8)
  | [], F, l => (0, F, l)
  | x :: t, F, l => if ¬ (readF x.1 F l).1 = 0 then readF x.1 F l else if fitB x.2 (readF x.1 F l).2.1 = false then (172, (readF x.1 F l).2.1, (readF x.1 F l).2.2) else allD t (readF x.1 F l).2.1 (readF x.1 F l).2.2
def allA (F : PF) (l : List (BitVec 8)) : Int × PF × List (BitVec 8) := if ¬ (kindD F l).1 = 0 then kindD F l else allD (flds (kindD F l).2.1.k.toNat) (kindD F l).2.1 (kindD F l).2.2
def IsRd (f : Nat) : Prop := f = 32 ∨ f = 34 ∨ f = 36 ∨ f = 38 ∨ f = 41
def IsFt (f : Nat) : Prop := f = 33 ∨ f = 35 ∨ f = 37 ∨ f = 39 ∨ f = 40
theorem read_any {B : Nat} {w : World} {p : Nat} {F : PF} {l : List (BitVec 8)} {f : Nat} (H : Sx B w p F l) (hB : B ≤ w.heap.size) (hf : IsRd f) : Calls Try.prog f #[.pointer (some ⟨p, 0, none⟩)] w (RdAns B w p (readF f F l)) := by
  rcases hf with rfl | rfl | rfl | rfl | rfl
  · exact stream_any H
  · exact class_any H
  · exact share_any H
  · exact data_any H hB
  · exact n_any H
theorem fits_any (w : World) (F : PF) (a : Option Addr) (L cap f : Nat) (hL : F.bs.length = L) (hf : IsFt f) : Calls Try.prog f #[.agg #[.int .i64 F.k, .int .u64 F.s, .int .u64 F.n, .int .i64 F.c, .int .i64 F.h, .slice a L cap]] w fun e w' => e = .returned (.bool (fitB f F)) ∧ Below w.heap.size w w' := by
  subst hL
  rcases hf with rfl | rfl | rfl | rfl | rfl
  · exact named_any w F.k F.s F.n F.c F.h a _ cap
  · exact classed_any w F.k F.s F.n F.c F.h a _ cap
  · exact shared_any w F.k F.s F.n F.c F.h a _ cap
  · exact filled_any w F.k F.s F.n F.c F.h a _ cap
  · exact free_any w F.k F.s F.n F.c F.h a _ cap
theorem flds_ok : ∀ K, K ≤ 9 → ∀ x ∈ flds K, IsRd x.1 ∧ IsFt x.2 := by
  intro K hK
  unfold IsRd IsFt
  have : K = 0 ∨ K = 1 ∨ K = 2 ∨ K = 3 ∨ K = 4 ∨ K = 5 ∨ K = 6 ∨ K = 7 ∨ K = 8 ∨ K = 9 := by omega
  rcases this with e | e | e | e | e | e | e | e | e | e <;> subst e <;> decide
theorem Sc.rowAt {w : World} {p : Nat} {v : Value} {k s n c h : Int} {d : Value} (H : Sc w p v k s n c h d) (K : Nat) (h1 : 1 ≤ K) (h2 : K ≤ 9) : w.cell? ⟨p, K, none⟩ = some (.slice (some ⟨p + K, 0, none⟩) (flds K).length (flds K).length) := by
  have : K = 1 ∨ K = 2 ∨ K = 3 ∨ K = 4 ∨ K = 5 ∨ K = 6 ∨ K = 7 ∨ K = 8 ∨ K = 9 := by omega
  rcases this with e | e | e | e | e | e | e | e | e <;> subst e <;> exact H.row.cell _ _ rfl
theorem fcells_at (p : Nat) : ∀ (l : List (Nat × Nat)) (i : Nat) (h : i < l.length), (fcells p l)[i * 2]? = some (.func (.func l[i].1) #[.pointer (some ⟨p, 0, none⟩)] #[]) ∧ (fcells p l)[i * 2 + 1]? = some (.func (.func l[i].2) #[] #[])
  | x :: t, 0, _ => ⟨rfl, rfl⟩
  | x :: t, i + 1, h => by
    have := fcells_at p t i (by simpa using h)
    rw [show (i + 1) * 2 = i * 2 + 2 by omega]
    exact this
theorem Sc.fieldAt {w : World} {p : Nat} {v : Value} {k s n c h : Int} {d : Value} (H : Sc w p v k s n c h d) (K : Nat) (h1 : 1 ≤ K) (h2 : K ≤ 9) (i : Nat) (hi : i < (flds K).length) :
    w.cell? ⟨p + K, i * 2, none⟩ = some (.func (.func (flds K)[i].1) #[.pointer (some ⟨p, 0, none⟩)] #[]) ∧ w.cell? ⟨p + K, i * 2 + 1, none⟩ = some (.func (.func (flds K)[i].2) #[] #[]) :=
  ⟨(H.tab K h1 h2).cell _ _ (fcells_at p _ i hi).1, (H.tab K h1 h2).cell _ _ (fcells_at p _ i hi).2⟩
theorem enter_run {f : FuncId} {fn : Func} {c : Code} (hf : Try.prog.funcs[f]? = some fn) (hname : (fn.name == "runtime.NumGoroutine") = false) (hb : fn.body = some c) (args : Array Value) (w : World) :
    (callFunc f args).run Try.prog w = .ok (.enter f args) w := by
  have h1 : fn.name ≠ "runtime.NumGoroutine" := by simpa using hname
  simp [callFunc, hf, h1, hb]
theorem rd_run {f : Nat} (hf : IsRd f) (args : Array Value) (w : World) : (callFunc f args).run Try.prog w = .ok (.enter f args) w := by
  rcases hf with rfl | rfl | rfl | rfl | rfl
  · exact enter_run Try.func32 (by kernel_rfl) rfl args w
  · exact enter_run Try.func34 (by kernel_rfl) rfl args w
  · exact enter_run Try.func36 (by kernel_rfl) rfl args w
  · exact enter_run Try.func38 (by kernel_rfl) rfl args w
  · exact enter_run Try.func41 (by kernel_rfl) rfl args w
theorem ft_run {f : Nat} (hf : IsFt f) (args : Array Value) (w : World) : (callFunc f args).run Try.prog w = .ok (.enter f args) w := by
  rcases hf with rfl | rfl | rfl | rfl | rfl
  · exact enter_run Try.func33 (by kernel_rfl) rfl args w
  · exact enter_run Try.func35 (by kernel_rfl) rfl args w
  · exact enter_run Try.func37 (by kernel_rfl) rfl args w
  · exact enter_run Try.func39 (by kernel_rfl) rfl args w
  · exact enter_run Try.func40 (by kernel_rfl) rfl args w
theorem toK {n : Nat} {args : Array Value} {v : Value} {w : World} (h : ∀ w', Below w.heap.size w w' → Calls Try.prog n args w' fun e w'' => e = .returned v ∧ Below w'.heap.size w' w'') (d : Nat) (os : Array Obj) : Calls Try.prog n args (grow (redrawn w d) os) fun e w'' => e = .returned v ∧ ∃ q : Regrown, w'' = grow (redrawn w q.d) q.os := by
  have hb := below_regrown w d os
  refine (h _ hb).mono ?_
  rintro e w' ⟨rfl, hb'⟩
  exact ⟨rfl, regrown_of_below (hb.trans (hb'.mono hb.size))⟩
theorem Sx.kept {B : Nat} {w w' : World} {p : Nat} {F : PF} {l : List (BitVec 8)} (H : Sx B w p F l) (hb : Below w.heap.size w w') : Sx B w' p F l := by
  obtain ⟨hp, v, d, h1, h2, h3⟩ := H
  exact ⟨hp, v, d, h1.kept hb, h2.kept hb, h3.fr (Fr.of_below hb (Nat.le_refl _) (S := fun _ => False)) (fun _ h => h.elim)⟩
set_option maxHeartbeats 4000000 in
theorem all_any {B : Nat} {w : World} {p : Nat} {F : PF} {l : List (BitVec 8)} (H : Sx B w p F l) (hB : B ≤ w.heap.size) : Calls Try.prog 43 #[.pointer (some ⟨p, 0, none⟩)] w (RdAns B w p (allA F l)) := by
  have HK := hid (kind_any H)
  have HBB := hid hB
  have HKK : Hid ((kindD F l).1 = 0 → Known (kindD F l).2.1.k) := by
    show _ → _
    unfold kindD
    split
    · intro e
      simp at e
    · rename_i hh
      intro e
      simp only at e ⊢
      exact Decidable.byContradiction (fun hk => hh ⟨e, hk⟩)
  clear H hB
  unfold allA
  generalize kindD F l = r at *
  obtain ⟨e0, F0, l0⟩ := r
  simp only at *
  by_cases h1 : e0 = 0
  · subst h1
    rw [if_neg (by simp)]
    obtain ⟨k1, k2⟩ := HKK.out rfl
    obtain ⟨K, hK⟩ : ∃ K : Nat, F0.k = K := ⟨F0.k.toNat, by omega⟩
    have HKE := hid hK
    rw [show F0.k.toNat = K by omega]
    have kb1 : 1 ≤ K := by omega
    have kb2 : K ≤ 9 := by omega
    clear hK k1 k2
    go_enter Try.func43, Try.ntmps43
    go_upto_region 4 with (go_at_call 55; refine HK.out.mono ?_; rintro e w5 ⟨rfl, hs5, hf5⟩)
    have HS5 := hid hs5
    have HF5 := hid hf5
    obtain ⟨hp, v5, d5, q1, q2, q3⟩ := hs5
    have c11 := q1.row.cell 11 _ rfl
    have cK := q1.rowAt K kb1 kb2
    rw [HKE.out] at c11
    have kb3 : (K : Int) < 10 := by omega
    have kb4 : (0 : Int) ≤ (K : Int) := by omega
    clear hf5 q1 q2 q3
    generalize hn : (flds K).length = N at *
    have HNN := hid hn
    clear hn
    go_quiet (fail)
    obtain ⟨w6, hw6⟩ : ∃ w6, w6 = w5.drewN nq := ⟨_, rfl⟩
    have HB6 : Hid (Below w5.heap.size w5 w6) := by rw [hw6]; exact below_drewN (Below.refl _ _) nq
    rw [← hw6]
    clear hw6
    have HS6 := hid (HS5.out.kept HB6.out)
    have HF6 := hid (HF5.out.trans (Fr.of_below HB6.out (Nat.le_refl _) (S := fun _ => False)) (fun x hx => hx.elim))
    clear HS5 HF5 c11 cK HK HKK HKE HB6
    go_wp2_with fail
    go_loopw [23] (fun s23 wr => ∃ (i : Nat) (F' : PF) (l' : List (BitVec 8)), i ≤ N ∧ s23 = .int .i64 (i : Int) ∧ Hid (Sx B wr p F' l') ∧ Hid (Fr (fun x => x = p) w wr) ∧ Hid (allD ((flds K).drop i) F' l' = allD (flds K) F0 l0)) (fun s _ => N - (intOf s).toNat)
    case atStart => exact ⟨0, F0, l0, Nat.zero_le _, rfl, HS6, HF6, rfl⟩
    case round =>
      obtain ⟨i, F', l', hi, rfl, HS7, HF7, HE7⟩ := hrel
      by_cases hlt : i < N
      · have hlt2 : (i : Int) < (N : Int) := by omega
        have hi0 : (0 : Int) ≤ (i : Int) := by omega
        have hil : i < (flds K).length := by rw [HNN.out]; exact hlt
        have hN3 : (N : Int) ≤ 3 := by
          have : ∀ K, K ≤ 9 → (flds K).length ≤ 3 := by decide
          have := this K kb2
          rw [HNN.out] at this
          omega
        obtain ⟨hr, hft⟩ := flds_ok K kb2 _ (List.getElem_mem hil)
        obtain ⟨hp, v7, d7, q1, q2, q3⟩ := HS7.out
        obtain ⟨y0, y1⟩ := q1.fieldAt K kb1 kb2 i hil
        have HE8 : Hid (allD (flds K) F0 l0 = allD ((flds K)[i] :: (flds K).drop (i + 1)) F' l') := by
          show _ = _
          rw [← HE7.out, List.drop_eq_getElem_cons hil]
        clear HE7 q1 q2 q3
        generalize (flds K)[i] = rf at *
        clear hil
        obtain ⟨r, f⟩ := rf
        simp only at *
        have HR := hid hr
        have HT := hid hft
        clear hr hft
        go_upto_region 7 with fail
        have RB := Row.new wr [.func (.func r) #[.pointer (some ⟨p, 0, none⟩)] #[], .func (.func f) #[] #[]] 79
        obtain ⟨w8, hw8⟩ : ∃ w8, w8 = wr.alloc (.cells #[.func (.func r) #[.pointer (some ⟨p, 0, none⟩)] #[], .func (.func f) #[] #[]] 79) := ⟨_, rfl⟩
        have hb8 : Below wr.heap.size wr w8 := by rw [hw8]; exact below_new _ _
        rw [show (wr.alloc (.cells [.func (.func r) #[.pointer (some ⟨p, 0, none⟩)] #[], .func (.func f) #[] #[]].toArray 79)) = w8 from hw8.symm] at RB
        rw [← hw8]
        clear hw8
        have HS8 := hid (HS7.out.kept hb8)
        have HF8 := hid (HF7.out.trans (Fr.of_below hb8 (Nat.le_refl _) (S := fun _ => False)) (fun x hx => hx.elim))
        have HRB := hid RB
        have b0 := RB.cell 0 _ rfl
        have hBw : B ≤ w8.heap.size := Nat.le_trans HBB.out HF8.out.size
        have HPN : Hid (¬ wr.heap.size = p) := by
          have h1 := HF7.out.size
          have h2 := HBB.out
          show ¬ _
          omega
        have HRD := hid (read_any HS8.out hBw HR.out)
        have HBW := hid hBw
        clear RB hb8 y0 y1 HS7 HF7 hBw
        obtain ⟨b8, hb8⟩ : ∃ b8, b8 = wr.heap.size := ⟨_, rfl⟩
        rw [← hb8] at HRB b0 HPN ⊢
        clear hb8
        have HE9 : Hid (allD (flds K) F0 l0 = if ¬ (readF r F' l').1 = 0 then readF r F' l' else if fitB f (readF r F' l').2.1 = false then (172, (readF r F' l').2.1, (readF r F' l').2.2) else allD ((flds K).drop (i + 1)) (readF r F' l').2.1 (readF r F' l').2.2) := HE8.out
        clear HE8
        generalize readF r F' l' = q at *
        obtain ⟨e9, F9, l9⟩ := q
        simp only at *
        have hcr := rd_run HR.out
        have hcf := ft_run HT.out
        by_cases h9 : e9 = 0
        · subst h9
          go_upto_region 10 with (go_at_fn r; refine HRD.out.mono ?_; rintro e w9 ⟨rfl, hs9, hf9⟩; have HS9 := hid hs9; have HF9 := hid hf9; clear hs9 hf9)
          have HRB9 := hid (HF9.out.row HRB.out HPN.out)
          obtain ⟨hp9, v9, d9, q1, q2, q3⟩ := HS9.out
          have hd9 : ∃ a9 c9, d9 = .slice a9 F9.bs.length c9 := by
            rcases q3 with ⟨rfl, e⟩ | ⟨g, rfl, _⟩
            · exact ⟨none, 0, by rw [e]; rfl⟩
            · exact ⟨_, _, rfl⟩
          obtain ⟨a9, c9, rfl⟩ := hd9
          have z1 := cell_regrown (HRB9.out.cell 1 _ rfl)
          have z11 := cell_regrown (q1.row.cell 11 _ rfl)
          have z12 := cell_regrown (q1.row.cell 12 _ rfl)
          have z13 := cell_regrown (q1.row.cell 13 _ rfl)
          have z14 := cell_regrown (q1.row.cell 14 _ rfl)
          have z15 := cell_regrown (q1.row.cell 15 _ rfl)
          have z16 := cell_regrown (q1.row.cell 16 _ rfl)
          have HFT := hid (toK (n := f) (w := w9) (fun w' _ => fits_any w' F9 a9 F9.bs.length c9 f rfl HT.out))
          clear q1 q2 q3 hp9 b0
          refine wp_region_quiet_below (by kernel_rfl) (by decide +kernel) ?_
          repeat (quiet_step (first | (go_at_fn f; exact HFT.out _ _)))
          refine wpQuiet_nil ?_
          intro _ hw'
          obtain ⟨⟨dq, osq⟩, hw''⟩ := hw'
          subst hw''
          obtain ⟨w10, hw10⟩ : ∃ w10, w10 = grow (redrawn w9 dq) osq := ⟨_, rfl⟩
          have HB10 : Hid (Below w9.heap.size w9 w10) := by rw [hw10]; exact below_regrown w9 dq osq
          show Exit.then _ _ _ _ (grow (redrawn w9 dq) osq)
          rw [← hw10]
          clear hw10 z1 z11 z12 z13 z14 z15 z16
          have HS10 := hid (HS9.out.kept HB10.out)
          have HF10 := hid ((fr_two HF8.out HF9.out).trans (Fr.of_below HB10.out (Nat.le_refl _) (S := fun _ => False)) (fun x hx => hx.elim))
          cases hfb : fitB f F9 with
          | true =>
            have HE10 : Hid (allD (flds K) F0 l0 = allD ((flds K).drop (i + 1)) F9 l9) := by show _ = _; rw [HE9.out, if_neg (by simp), if_neg (by rw [hfb]; simp)]
            clear HE9 HFT hfb
            go_wp2_with fail
            go_roundw
            case rel => exact ⟨i + 1, F9, l9, hlt, by go_num, HS10, HF10, HE10.out.symm⟩
            case measure => simp [intOf]; omega
          | false =>
            have HE10 : Hid (allD (flds K) F0 l0 = (172, F9, l9)) := by show _ = _; rw [HE9.out, if_neg (by simp), if_pos hfb]
            clear HE9 HFT hfb
            go_wp2_with fail
            go_ret
            rw [HE10.out]
            exact ⟨rfl, HS10.out, HF10.out⟩
        · have h9b : (e9 == 0) = false := by simpa using h9
          have HE10 : Hid (allD (flds K) F0 l0 = (e9, F9, l9)) := by show _ = _; rw [HE9.out, if_pos h9]
          clear HE9
          go_wp2_with (go_at_fn r; refine HRD.out.mono ?_; rintro e w9 ⟨rfl, hs9, hf9⟩; have HS9 := hid hs9; have HF9 := hid hf9; clear hs9 hf9)
          go_ret
          rw [HE10.out]
          exact ⟨rfl, HS9.out, fr_two HF8.out HF9.out⟩
      · have hlt2 : ¬ (i : Int) < (N : Int) := by omega
        obtain rfl : i = N := by omega
        have HE8 : Hid (allD (flds K) F0 l0 = (0, F', l')) := by
          show _ = _
          rw [← HE7.out, List.drop_eq_nil_of_le (by rw [HNN.out]; exact Nat.le_refl _)]
          rfl
        go_wp2_with fail
        go_ret
        rw [HE8.out]
        exact ⟨rfl, HS7.out, HF7.out⟩
  · have h1b : (e0 == 0) = false := by simpa using h1
    rw [if_pos h1]
    go_enter Try.func43, Try.ntmps43
    go_wp2_with (go_at_call 55; refine HK.out.mono ?_; rintro e w5 ⟨rfl, hs5, hf5⟩; have HS5 := hid hs5; have HF5 := hid hf5; clear hs5 hf5)
    go_ret
    exact ⟨rfl, HS5.out, HF5.out⟩
end Go.Proofs.Ytkhogbnoincbeab
