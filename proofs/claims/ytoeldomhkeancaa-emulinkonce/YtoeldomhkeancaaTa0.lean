import Derived.Test.YtoeldomhkeancaaNx0
namespace Go.Proofs.Ytoeldomhkeancaa
open Go.RowKit Go.Maps
set_option maxRecDepth 100000

theorem inf55 : ∃ i : TypeInfo, Try.prog.info? 55 = some i ∧ i.zero = some (.agg #[.int .u64 0, .int .u64 0, .slice none 0 0]) ∧ i.size = 3 ∧ i.bytes = 40 := by
  have h : (Try.prog.info? 55).map (fun i => (i.zero, i.size, i.bytes)) = some (some (.agg #[.int .u64 0, .int .u64 0, .slice none 0 0]), 3, 40) := by kernel_rfl
  cases hq : Try.prog.info? 55 with
  | none => rw [hq] at h; cases h
  | some i => rw [hq] at h; simp at h; exact ⟨i, rfl, h.1, h.2.1, h.2.2⟩
/-- An arrival behind an own row of them. -/
theorem wpAppend55 {ops : Array Oper} {rest : List Oper} {o : Oper} {a : Act} {w : World} {Q : Exit → Act → World → Prop} (s x : Operand) (hgd : o.guard = none) (ho : o.op = .call { callee := .builtin .append, args := #[s, x], argTypes := #[42, 42] })
    {base : Nat} {v : Value} {L : List (It Value)} (hs : a.eval s = v) (hown : w.ownsRow base 55 3 v L.length (flatI L)) (hbase : base ≤ w.heap.size)
    {bx : Nat} {it : It Value} (hx : a.eval x = .slice (some ⟨bx, 0, none⟩) 1 1) (R : Row w bx (icells it) 55) (h1 : it.what.oneCell' = true) (hl : L.length ≤ 2932031007402)
    (h : ∀ w' v', Hid (w'.ownsRow base 55 3 v' (L ++ [it]).length (flatI (L ++ [it]))) → Hid (w.grownBy w' v.ownBlock ∧ (v'.ownBlock = v.ownBlock ∨ v'.ownBlock = some w.heap.size)) → wpList Try.prog ops Q rest (a.put o.dst v') w') : wpList Try.prog ops Q (o :: rest) a w := by
  obtain ⟨i, i1, i2, i3, i4⟩ := inf55
  refine wpList_append_own_at w hgd s x 42 ho base 55 i (.agg #[.int .u64 0, .int .u64 0, .slice none 0 0]) 3 40 Try.underlying42 i1 i2 i3 i4 rfl (by decide) v L.length (flatI L) hs hown ⟨bx, 0, none⟩ 1 1 (icells it) hx rfl ?_ (icells_one h1) (by unfold maxLen; omega) (by omega) hbase ?_
  · intro j u hu
    rw [Addr.add_mid]
    exact R.cell _ _ (by simpa using hu)
  · intro v' w' hown' hgrow _ hat
    refine h w' v' ?_ ⟨hgrow, hat⟩
    show World.ownsRow _ _ _ _ _ _ _
    rw [show (L ++ [it]).length = L.length + 1 by simp, flatI_app, show flatI [it] = icells it by simp [flatI]]
    exact hown'
theorem bsl42 (w : World) (i j : Int) (a : Option Addr) (n c : Nat) : (Instr.buildSlice 42 1 #[(0, .agg #[.int .u64 i, .int .u64 j, .slice a n c])]).run Try.prog w = .ok (.slice (some ⟨w.heap.size, 0, none⟩) 1 1) (w.alloc (.cells #[.int .u64 i, .int .u64 j, .slice a n c] 55)) := by kernel_rfl
/-- What was taken so far. -/
structure TkI (K1 : Lk) (xs : List (It Value)) (K : Lk) : Prop where
  eq : K = { K1 with Fl := K.Fl, fv := K.fv, come := K1.come + xs.length }
  perm : (xs ++ K.Fl).Perm K1.Fl
  srt : xs.Pairwise (fun a b => Le a.key b.key)
  low : ∀ a ∈ xs, ∀ b ∈ K.Fl, Le a.key b.key
  le : ∀ a ∈ xs, a.at_ ≤ K1.now
theorem TkI.start (K1 : Lk) : TkI K1 [] K1 := ⟨by simp, by simp, List.Pairwise.nil, by simp, by simp⟩
theorem TkI.step {K1 K : Lk} {xs : List (It Value)} (h : TkI K1 xs K) {x : It Value} {L' : List (It Value)} {fv' : Value} (hx : x ∈ K.Fl) (ht : x.at_ ≤ K.now) (hm : ∀ y ∈ K.Fl, Le x.key y.key) (hp : (x :: L').Perm K.Fl) : TkI K1 (xs ++ [x]) { K with Fl := L', fv := fv', come := K.come + 1 } := by
  refine ⟨?_, ?_, ?_, ?_, ?_⟩
  · have e := h.eq
    generalize K.Fl = q1 at e
    generalize K.fv = q2 at e
    subst e
    simp only [List.length_append, List.length_cons, List.length_nil]
    congr 1
    omega
  · refine List.Perm.trans ?_ h.perm
    rw [List.append_assoc]
    exact (List.Perm.refl xs).append hp
  · refine List.pairwise_append.2 ⟨h.srt, by simp, fun a ha b hb => ?_⟩
    simp at hb
    subst hb
    exact h.low a ha b hx
  · intro a ha b hb
    have hb' : b ∈ K.Fl := hp.mem_iff.1 (by simp [show b ∈ L' from hb])
    rcases List.mem_append.1 ha with h1 | h1
    · exact h.low a h1 b hb'
    · simp at h1
      subst h1
      exact hm b hb'
  · intro a ha
    rcases List.mem_append.1 ha with h1 | h1
    · exact h.le a h1
    · simp at h1
      subst h1
      have : K.now = K1.now := by rw [h.eq]
      omega
/-- What a Take comes to. -/
def TakeP (p : Nat) (K : Lk) (t : Int) (w : World) (e : Ending) (w' : World) : Prop :=
  ∃ K1 K' v xs, e = .returned v ∧ GoE K t K1 ∧ Lm p K w K' w' ∧ TkI K1 xs K' ∧ (∀ y ∈ K'.Fl, t < y.at_) ∧ w'.ownsRow w.heap.size 55 3 v xs.length (flatI xs) ∧ ∀ x ∈ xs, OwnBy w' 0 x.what (K.D x.num)
def lenF (w : World) (p : Nat) : Nat := match w.cell? ⟨p, 14, none⟩ with
  | some (.slice _ n _) => n
  | _ => 0
theorem lenF_of {w : World} {p : Nat} {K : Lk} (h : LkAt w p K) : lenF w p = K.Fl.length := by
  obtain ⟨a, cap, e, _⟩ := h.hf.slice
  unfold lenF
  rw [h.hf.cell, e]
structure TaI (p : Nat) (K1 : Lk) (base : Nat) (w0 : World) (s : Value) (xs : List (It Value)) (K : Lk) (w : World) : Prop where
  lm : Lm p K1 w0 K w
  tk : TkI K1 xs K
  own : w.ownsRow base 55 3 s xs.length (flatI xs)
  by_ : ∀ x ∈ xs, OwnBy w 0 x.what (K1.D x.num)
theorem LkAt.apartM {w : World} {p : Nat} {K : Lk} (h : LkAt w p K) {b : Nat} {t : TypeId} {sz : Nat} {v : Value} {n : Nat} {xs : List Value} (ho : w.ownsRow b t sz v n xs) (h1 : t ≠ 38) (h2 : t ≠ 87) (h3 : t ≠ 70) (h4 : t ≠ 4) (h5 : t ≠ 3) (h6 : t ≠ 5) : ∀ g, v.ownBlock = some g → ¬ Mem p K g := fun g e => by
  rintro (hf | e' | e' | ⟨x, hx, e'⟩)
  · exact h.apart ho h1 h2 h3 g e hf
  · exact own_two ho h.lo h4 e e'
  · exact own_two ho h.ji h5 e e'
  · exact own_two ho (h.by_ x hx) h6 e e'
theorem Lm.apart {S : Nat → Prop} {w w' w'' : World} {p : Nat} {K K' : Lk} (h : Lm p K w K' w') (hf : Fr S w' w'') (hS : ∀ k, Mem p K' k → ¬ S k) (hn : ∀ k, S k → Foot p K k ∨ w.heap.size ≤ k) : Lm p K w K' w'' :=
  ⟨h.at_.kept hf hS, h.fr.trans hf hn, h.gr⟩
theorem hLM5 {w wc w5 : World} {p : Nat} {K K' : Lk} {s : Value} {b n : Nat} {xs : List Value} {c : Array Value} (h : Lm p K w K' wc) (ho : wc.ownsRow b 55 3 s n xs) (hg : (wc.alloc (.cells c 55)).grownBy w5 s.ownBlock) : LkAt w5 p K' := by
  have hba := below_new wc (.cells c 55)
  exact (h.at_.below hba).kept (S := fun k => s.ownBlock = some k) (Fr.of_grown hg (fun k e => .inl e)) (fun k hk e => (h.at_.below hba).apartM (own_below ho hba) (by decide) (by decide) (by decide) (by decide) (by decide) (by decide) k e hk)
def TaR (p : Nat) (K : Lk) (w : World) (v6 v7 : Value) (w3 : World) : Prop := ∃ b x ok, v6 = pt b 0 ∧ v7 = .bool ok ∧ x.what.oneCell' = true ∧ w.heap.size ≤ b ∧ Row w3 b (icells x) 55 ∧ TkC p K w x ok w3
theorem TkC.size {p : Nat} {K : Lk} {w w2 : World} {x : It Value} {ok : Bool} (h : TkC p K w x ok w2) : w.heap.size ≤ w2.heap.size := by
  rcases h with ⟨h1, h2, h3, h4, L', fv', h5, h6, h7⟩ | ⟨h1, h2, h3, h4⟩
  · exact h7.fr.size
  · exact h4.size
theorem TkC.below {p : Nat} {K : Lk} {w w2 w3 : World} {x : It Value} {ok : Bool} (h : TkC p K w x ok w2) (hb : Below w2.heap.size w2 w3) : TkC p K w x ok w3 := by
  rcases h with ⟨h1, h2, h3, h4, L', fv', h5, h6, h7⟩ | ⟨h1, h2, h3, h4⟩
  · exact .inl ⟨h1, h2, h3, h4, L', fv', h5, h6, h7.below hb⟩
  · exact .inr ⟨h1, h2, h3, below_two h4 hb (Nat.le_refl _)⟩
set_option maxHeartbeats 4000000 in
/-- The frames that have come are taken. -/
theorem take_any {w : World} {p : Nat} {K : Lk} (h : LkAt w p K) (hk : K.Ok) (now : Int) (hl : K.Fl.length ≤ 2932031007402) (hc0 : 0 ≤ K.come) (hc1 : K.come ≤ 4611686018427387904) :
    Calls Try.prog 11 #[pt p 0, .int .u64 now] w fun e w' => TakeP p K (tm K.now now) w e w' := by
  have HN := hid (none_any h hk.q0)
  have HG := hid (goOn_any h hk now)
  have HH := hid h
  clear h hk
  go_enter Try.func11, Try.ntmps11
  go_upto_region 4 with (first
    | (go_at_call 19; refine HN.out.mono ?_; rintro e w ⟨rfl, rfl⟩)
    | (go_at_call 20; refine HG.out.mono ?_; rintro e w1 ⟨rfl, K1, hL, hE⟩; have HL := hid hL; have HE := hid hE; clear hL hE HG HN))
  have e0 : K1.come = K.come ∧ K1.now = tm K.now now ∧ K1.Fl = K.Fl ∧ K1.D = K.D := by
    have := HE.out.eq
    generalize K1.S = q1 at this
    generalize K1.sv = q2 at this
    generalize K1.wait = q3 at this
    rw [this]
    exact ⟨rfl, rfl, rfl, rfl⟩
  obtain ⟨ec, en, ef, ed⟩ := e0
  have hbz : w.heap.size ≤ w1.heap.size := HL.out.fr.size
  have HEND : Hid (∀ s xs Kr wr, TaI p K1 w1.heap.size w1 s xs Kr wr → (∀ y ∈ Kr.Fl, Kr.now < y.at_) → TakeP p K (tm K.now now) w (.returned s) wr) := fun s xs Kr wr hT hy => by
    have hkn : Kr.now = K1.now := by rw [hT.tk.eq]
    refine ⟨K1, Kr, s, xs, rfl, HE.out, HL.out.trans hT.lm, hT.tk, fun y hyy => by rw [← en, ← hkn]; exact hy y hyy, own_less hT.own hbz, fun x hx => ed ▸ hT.by_ x hx⟩
  have HS : Hid (TaI p K1 w1.heap.size w1 (.slice none 0 0) [] K1 w1) := ⟨Lm.refl HL.out.at_, TkI.start K1, ⟨rfl, .inl ⟨rfl, rfl⟩⟩, by simp⟩
  have hf1 : K1.Fl.length ≤ 2932031007402 := by rw [ef]; exact hl
  clear HL HE HH
  go_wp2_with fail
  go_loopw [5] (fun s wr => ∃ xs Kr, TaI p K1 w1.heap.size w1 s xs Kr wr) (fun _ wr => lenF wr p)
  case atStart => exact ⟨[], K1, HS.out⟩
  case round =>
    obtain ⟨xs, Kr, hT⟩ := hrel
    have hkf : Kr.Fl.length ≤ 2932031007402 := by
      have := hT.tk.perm.length_eq
      simp at this
      omega
    have hxl : xs.length ≤ 2932031007402 := by
      have := hT.tk.perm.length_eq
      simp at this
      omega
    have hcm : Kr.come = K1.come + xs.length := by rw [hT.tk.eq]
    have HTK := hid (takeOne_any hT.lm.at_ hkf (by omega) (by omega))
    have HLE := hid (show lenF wr p = Kr.Fl.length from lenF_of hT.lm.at_)
    have HML := hid (fun k hk => hT.lm.at_.lt hk : ∀ k, Mem p Kr k → k < wr.heap.size)
    have HT := hid hT
    clear hT HS hcm
    go_upto_region 5 with fail
    go_cut [6, 7] from 13 to 17 (fun v6 v7 wx => TaR p Kr wr v6 v7 wx)
    case first =>
      go_wp2_with (first
        | (go_at_call 24; refine HTK.out.mono ?_; rintro e w2 ⟨x, ok, rfl, hx1, hC⟩; have HC := hid hC; clear hC)
        | (show wpList _ _ _ (Oper.mk none (.store 55 (.tmp 6) (.tmp 16)) _ _ _ _ :: _) _ _; refine (Row.new w2 (icells zIb) 55).wpStore' 55 (.tmp 6) (.tmp 16) (icells x) rfl rfl rfl rfl rfl (icells_one hx1) info_55 ?_; intro w8 HW8; simp only [Act.put]))
      go_meet
      have hs2 : wr.heap.size ≤ w2.heap.size := HC.out.size
      have hF8 : Fr (fun j => j = w2.heap.size) (w2.alloc (.cells (icells zIb).toArray 55)) w8 := by rw [HW8.out]; exact fr_row _ _ _
      have hR8 : Row w8 w2.heap.size (icells x) 55 := by rw [HW8.out]; exact (Row.new w2 (icells zIb) 55).row _
      exact ⟨w2.heap.size, x, ok, rfl, rfl, hx1, hs2, hR8, (HC.out.below (below_new _ _)).fresh hF8 hs2 HML.out⟩
    case rest =>
      obtain ⟨b, x, ok, rfl, rfl, hx1, hb, hR, hC⟩ := hcut
      rcases hC with ⟨rfl, hx, hxt, hxm, L', fv', h5, h6, h7⟩ | ⟨rfl, rfl, hy, hB⟩
      · obtain ⟨xa, xc, hxw, -⟩ := ownBy_shape (HT.out.lm.at_.by_ x hx)
        obtain ⟨xl, hxll⟩ : ∃ xl, (Kr.D x.num).length = xl := ⟨_, rfl⟩
        rw [hxll] at hxw
        have HIC : Hid (icells x = [.int .u64 x.at_, .int .u64 x.num, .slice xa xl xc]) := by show _ = _; rw [icells, hxw]
        have d0 := hR.cell 0 _ rfl
        have d1 := hR.cell 1 _ rfl
        have d2 := hR.cell 2 _ rfl
        rw [hxw] at d2
        have hD : Kr.D = K1.D := by rw [HT.out.tk.eq]
        have ho : OwnBy wr 0 x.what (K1.D x.num) := hD ▸ HT.out.lm.at_.by_ x hx
        have how : wc.ownsRow w1.heap.size 55 3 u5 xs.length (flatI xs) := h7.fr.own HT.out.own (HT.out.lm.at_.apart HT.out.own (by decide) (by decide) (by decide))
        have HBY : Hid (∀ y ∈ xs ++ [x], OwnBy wc 0 y.what (K1.D y.num)) := fun y hy => by
          rcases List.mem_append.1 hy with e | e
          · exact h7.fr.own (HT.out.by_ y e) (HT.out.lm.at_.apart (HT.out.by_ y e) (by decide) (by decide) (by decide))
          · simp at e
            subst e
            exact h7.fr.own ho (HT.out.lm.at_.apart ho (by decide) (by decide) (by decide))
        have HTK2 := hid (HT.out.tk.step (fv' := fv') hx hxt hxm h5)
        have HLM := hid (HT.out.lm.trans h7)
        have HOW := hid how
        have hbs : w1.heap.size ≤ wc.heap.size := Nat.le_trans HT.out.lm.fr.size h7.fr.size
        have HLN := hid (show L'.length < Kr.Fl.length by have := h5.length_eq; simp at this; omega)
        have hbs42 := bsl42
        have RN : Row (wc.alloc (.cells #[.int .u64 x.at_, .int .u64 x.num, .slice xa xl xc] 55)) wc.heap.size (icells x) 55 := by rw [HIC.out]; exact Row.new wc [.int .u64 x.at_, .int .u64 x.num, .slice xa xl xc] 55
        clear hR hx hxt hxm h5 h6 h7 ho how HT HML HTK hxw hxll
        go_wp2_with (at_builtin; refine wpAppend55 (.tmp 21) (.tmp 23) rfl rfl (L := xs) rfl (own_below HOW.out (below_new _ _)) (Nat.le_trans hbs (below_new _ _).size) rfl RN hx1 hxl ?_; intro w5 v5 hO5 hg5)
        go_roundw
        case rel =>
          have hba := below_new wc (.cells #[.int .u64 x.at_, .int .u64 x.num, .slice xa xl xc] 55)
          have hF5 : Fr (fun k => u5.ownBlock = some k) (wc.alloc (.cells #[.int .u64 x.at_, .int .u64 x.num, .slice xa xl xc] 55)) w5 := Fr.of_grown hg5.out.1 (fun k e => .inl e)
          have hLA := HLM.out.below hba
          have hOA := own_below HOW.out hba
          refine ⟨xs ++ [x], _, hLA.apart hF5 (fun k hk e => hLA.at_.apartM hOA (by decide) (by decide) (by decide) (by decide) (by decide) (by decide) k e hk) (fun k e => .inr (own_ge HOW.out e)), HTK2.out, hO5.out, fun y hy => ?_⟩
          exact hF5.own (own_below (HBY.out y hy) hba) (fun g e => own_two (own_below (HBY.out y hy) hba) hOA (by decide) e)
        case measure =>
          have h1 := lenF_of (hLM5 HLM.out HOW.out hg5.out.1)
          rw [HLE.out]
          exact Nat.lt_of_le_of_lt (Nat.le_of_eq h1) HLN.out
      · have HTB := hid (HT.out.lm.below hB)
        have HTO : Hid (TaI p K1 w1.heap.size w1 u5 xs Kr wc) := ⟨HTB.out, HT.out.tk, own_below HT.out.own hB, fun y hy => own_below (HT.out.by_ y hy) hB⟩
        clear HT HTB HML HTK hR hB
        go_wp2_with fail
        go_ret
        exact HEND.out _ _ _ _ HTO.out hy
end Go.Proofs.Ytoeldomhkeancaa
