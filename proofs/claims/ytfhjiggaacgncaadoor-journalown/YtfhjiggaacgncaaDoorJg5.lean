import Derived.Test.YtfhjiggaacgncaaDoorJg4
import Derived.Test.YtfhjiggaacgncaaDoorJr4
namespace Go.Proofs.YtfhjiggaacgncaaDoor
open Go.RowKit Go.Maps Go.Sort
set_option maxRecDepth 100000

theorem wpAnyF_two {P : Program} {ops : Array Oper} {Q : Exit → Act → World → Prop} {md : Region.Mode} {S : World → Prop} {N : Nat} {i j : Nat} {oi oj : Oper} {fuel : Nat} {listed : Array Bool} {a : Act} {w : World} (hi : ops[i]? = some oi) (hgi : oi.guard = none) (hj : ops[j]? = some oj) (hgj : oj.guard = none) (hr : Region.ready md ops listed = [i, j])
    (h1 : oi.wp P a w (fun a' w' => (i ≠ N → S w') ∧ wpAnyF P md ops Q S N fuel (listed.setIfInBounds i true) a' w') Q) (h2 : oj.wp P a w (fun a' w' => (j ≠ N → S w') ∧ wpAnyF P md ops Q S N fuel (listed.setIfInBounds j true) a' w') Q) : wpAnyF P md ops Q S N (fuel + 1) listed a w := by
  refine ⟨fun h0 => (by rw [hr] at h0; cases h0), fun k hk => ?_⟩
  rw [hr] at hk
  rcases List.mem_cons.1 hk with rfl | hk
  · unfold wpOp
    simp only [hi, Region.wanted, hgi]
    exact .inl h1
  · rw [List.mem_singleton] at hk
    subst hk
    unfold wpOp
    simp only [hj, Region.wanted, hgj]
    exact .inl h2
theorem step_alloc41 {o : Oper} {a : Act} {w : World} {K : Act → World → Prop} {Q : Exit → Act → World → Prop} (ho : o.op = .alloc 41) (h : K (a.put o.dst (pt w.heap.size 0)) (w.alloc (.cells #[.int .u64 0, .int .u8 0, .slice none 0 0] 41))) : Oper.wp Tryd.prog o a w K Q := by
  have e : (execOp a.eval o).run Tryd.prog w = .ok (.value (pt w.heap.size 0)) (w.alloc (.cells #[.int .u64 0, .int .u8 0, .slice none 0 0] 41)) := by
    generalize a.eval = r at *
    unfold execOp
    rw [ho]
    kernel_rfl
  exact step_val e h
theorem step_store41 {o : Oper} {a : Act} {w : World} {K : Act → World → Prop} {Q : Exit → Act → World → Prop} {x1 x2 : Operand} {b : Nat} {X Y : Int} {sa : Option Addr} {sn sc : Nat} (ho : o.op = .store 41 x1 x2) (hx : a.eval x1 = .pointer (some ⟨b, 0, none⟩)) (hy : a.eval x2 = .agg #[.int .u64 X, .int .u8 Y, .slice sa sn sc])
    (R : Row w b [.int .u64 0, .int .u8 0, .slice none 0 0] 41) (h : ∀ w', Row w' b [.int .u64 X, .int .u8 Y, .slice sa sn sc] 41 → Fr (fun x => x = b) w w' → K (a.put o.dst undef) w') : Oper.wp Tryd.prog o a w K Q := by
  have z0 := R.cell 0 _ rfl
  have z1 := R.cell 1 _ rfl
  have z2 := R.cell 2 _ rfl
  have f0 := R.frozen 0
  have f1 := R.frozen 1
  have f2 := R.frozen 2
  have e : (execOp a.eval o).run Tryd.prog w = .ok .skip (((w.setCell ⟨b, 0, none⟩ (.int .u64 X)).setCell ⟨b, 1, none⟩ (.int .u8 Y)).setCell ⟨b, 2, none⟩ (.slice sa sn sc)) := by
    generalize a.eval = r at *
    simp [execOp, ho, hx, hy, z0, z1, z2, f0, f1, f2, go_sem]
  unfold Oper.wp
  rw [e]
  exact h _ (((R.set 0 _).set 1 _).set 2 _) ((((Fr.refl (fun x => x = b) w).setCell b 0 _ (.inl rfl)).setCell b 1 _ (.inl rfl)).setCell b 2 _ (.inl rfl))
/-- The records that are found. -/
def scan (N : List (BitVec 8)) : Nat → Nat → Nat → List (BitVec 8 × List (BitVec 8))
  | 0, _, _ => []
  | f + 1, e, i =>
    match rightP (N.drop e) i with
    | none => []
    | some (k, b) => (k, b) :: scan N f (e + (18 + b.length)) (i + 1)
def Lg.pr (G : Lg) : List (BitVec 8 × List (BitVec 8)) := G.R.map fun x => (x.k, x.b)
theorem rightP_len {l : List (BitVec 8)} {i : Nat} {k : BitVec 8} {b : List (BitVec 8)} (h : rightP l i = some (k, b)) : 18 + b.length ≤ l.length ∧ b.length ≤ 65536 := by
  unfold rightP at h
  cases hr : reachP l with
  | none => rw [hr] at h; cases h
  | some n =>
    rw [hr] at h
    simp only at h
    obtain ⟨n1, n2, n3⟩ := reachP_bd hr
    split at h
    · injection h with h
      injection h with _ h
      subst h
      simp
      omega
    · cases h
def rX (o : Option (BitVec 8 × List (BitVec 8))) (i : Nat) : Int := match o with | none => 0 | some _ => (i : Int)
def rY (o : Option (BitVec 8 × List (BitVec 8))) : Int := match o with | none => 0 | some x => ub x.1
def rB (o : Option (BitVec 8 × List (BitVec 8))) : List (BitVec 8) := match o with | none => [] | some x => x.2
theorem rightAns_tuple {w w' : World} {i : Nat} {o : Option (BitVec 8 × List (BitVec 8))} {e : Ending} (h : RightAns w i o e w') : Below w.heap.size w w' ∧ ∃ sa sc, e = .returned (.tuple #[.agg #[.int .u64 (rX o i), .int .u8 (rY o), .slice sa (rB o).length sc], .bool o.isSome]) ∧ OwnBy w' w.heap.size (.slice sa (rB o).length sc) (rB o) := by
  obtain ⟨hb, h⟩ := h
  refine ⟨hb, ?_⟩
  cases o with
  | none => exact ⟨none, 0, h, own_nil _ _⟩
  | some x =>
    obtain ⟨k, b⟩ := x
    obtain ⟨v, rfl, hO⟩ := h
    obtain ⟨sa, sc, e, -⟩ := own_len hO
    subst e
    exact ⟨sa, sc, rfl, hO⟩
/-- A log that is being found. -/
structure Fnd (w : World) (p q : Nat) (D : Dk) (wr : World) (G : Lg) : Prop where
  jl : JL wr q D G
  gp : G.p = p
  fr : Fr (fun k => w.heap.size ≤ k) w wr
  new : ∀ x, G.Mem q x → w.heap.size ≤ x
  born : G.born = D.lives
  size : G.size = D.N.length
  le : G.end_ ≤ D.N.length
  few : G.R.length ≤ G.end_
  sc : ∃ f, D.N.length < G.end_ + f ∧ G.pr ++ scan D.N f G.end_ G.R.length = scan D.N (D.N.length + 1) 0 0
  en : G.end_ = (G.pr.map fun x => 18 + x.2.length).sum
theorem Fnd.below {w wr : World} {p q : Nat} {D : Dk} {G : Lg} (h : Fnd w p q D wr G) : Below w.heap.size w wr := h.fr.below (fun _ e => e) (Nat.le_refl _)
theorem Fnd.add {w wr w1 w2 : World} {p q : Nat} {D : Dk} {G : Lg} (h : Fnd w p q D wr G) (hD : ∀ x, D.Mem p x → x < w.heap.size) {k : BitVec 8} {v v' : Value} {b : List (BitVec 8)} (hr : rightP (D.N.drop G.end_) G.R.length = some (k, b)) (hb : Below wr.heap.size wr w1) (hv : OwnBy w1 wr.heap.size v b)
    (hG : LgAt w2 q (G.add ⟨k, v, b⟩ v')) (hF : Fr (G.AddM q) w1 w2) (hn : ∀ g, v'.ownBlock = some g → G.rv.ownBlock = some g ∨ w1.heap.size ≤ g) : Fnd w p q D w2 (G.add ⟨k, v, b⟩ v') := by
  have hs := h.fr.size
  have hAn : ∀ x, G.AddM q x → w.heap.size ≤ x := by
    rintro x (rfl | e)
    · exact h.new _ (.inl rfl)
    · exact h.new _ (.inr (.inl e))
  have hnew : ∀ x, (G.add ⟨k, v, b⟩ v').Mem q x → w.heap.size ≤ x := by
    rintro x (rfl | e | ⟨y, hy, e⟩)
    · exact h.new _ (.inl rfl)
    · rcases hn x e with e' | e'
      · exact h.new _ (.inr (.inl e'))
      · have := hb.size; omega
    · rcases List.mem_append.1 (show y ∈ G.R ++ [(⟨k, v, b⟩ : Rc)] from hy) with hy | hy
      · exact h.new _ (.inr (.inr ⟨y, hy, e⟩))
      · simp at hy
        subst hy
        have := own_ge hv e
        omega
  have hln := rightP_len hr
  rw [List.length_drop] at hln
  obtain ⟨f, hf, hsc⟩ := h.sc
  have hle := h.le
  refine ⟨⟨?_, hG, ?_⟩, h.gp, ?_, hnew, h.born, h.size, ?_, ?_, ?_, ?_⟩
  · refine (h.jl.dk.kept hb).fr hF (fun x hx hA => ?_)
    have := hD x (h.gp ▸ hx)
    have := hAn x hA
    omega
  · intro x hx hd
    have := hnew x hx
    have := hD x (h.gp ▸ hd)
    omega
  · exact (h.fr.trans (T := fun _ => False) (Fr.of_below hb (Nat.le_refl _)) (fun _ e => e.elim)).trans hF (fun x e => .inl (hAn x e))
  · show G.end_ + (18 + b.length) ≤ _
    omega
  · show (G.R ++ [(⟨k, v, b⟩ : Rc)]).length ≤ G.end_ + (18 + b.length)
    have := h.few
    simp
    omega
  · obtain ⟨f', rfl⟩ : ∃ f', f = f' + 1 := ⟨f - 1, by omega⟩
    refine ⟨f', by show _ < G.end_ + (18 + b.length) + f'; omega, ?_⟩
    rw [← hsc]
    show (G.R ++ [(⟨k, v, b⟩ : Rc)]).map _ ++ scan D.N f' (G.end_ + (18 + b.length)) (G.R ++ [(⟨k, v, b⟩ : Rc)]).length = _
    rw [List.length_append, List.map_append, List.append_assoc, scan, hr]
    rfl
  · show G.end_ + (18 + b.length) = _
    rw [h.en]
    simp [Lg.pr, Lg.add]
structure Opn (w w' : World) (p q : Nat) (D D' : Dk) (G : Lg) : Prop where
  at_ : JL w' q D' G
  gp : G.p = p
  fr : Fr (D.Mem p) w w'
  gnew : ∀ x, G.Mem q x → w.heap.size ≤ x
  dsub : ∀ x, D'.Mem p x → D.Mem p x
  born : G.born = D.lives
  size : G.size = D.N.length
  le : G.end_ ≤ D.N.length
  few : G.R.length ≤ G.end_
  pr : G.pr = scan D.N (D.N.length + 1) 0 0
  en : G.end_ = (G.pr.map fun x => 18 + x.2.length).sum
  dS : D'.S = cleanL D.N G.end_
  dN : D'.N = cleanL D.N G.end_
  dW : D'.W = []
  dl : D'.lives = D.lives
theorem build83 (w : World) (r : Value) (l n : Int) : (Instr.build 83 #[(0, .iface 22 r), (1, .int .i64 l), (2, .int .i64 n)]).run Tryd.prog w = .ok (.agg #[.iface 22 r, .int .i64 l, .int .i64 n, .int .i64 0, .slice none 0 0]) w := by kernel_rfl
theorem fnd_new {w : World} {p : Nat} {D : Dk} (h : DkAt w p D) : Fnd w p w.heap.size D (w.alloc (.cells #[.iface 22 (.pointer (some ⟨p, 0, none⟩)), .int .i64 D.lives, .int .i64 (D.N.length : Nat), .int .i64 0, .slice none 0 0] 83)) ⟨p, D.lives, D.N.length, 0, .slice none 0 0, []⟩ := by
  have hb := below_new w (.cells #[.iface 22 (.pointer (some ⟨p, 0, none⟩)), .int .i64 D.lives, .int .i64 (D.N.length : Nat), .int .i64 0, .slice none 0 0] 83)
  have hn : ∀ x, (⟨p, D.lives, D.N.length, 0, .slice none 0 0, []⟩ : Lg).Mem w.heap.size x → w.heap.size ≤ x := by
    rintro x (rfl | e | ⟨y, hy, _⟩)
    · exact Nat.le_refl _
    · simp [Value.ownBlock] at e
    · cases hy
  refine ⟨⟨h.kept hb, ⟨Row.new' w _ _ 83 _ rfl rfl, ⟨rfl, .inl ⟨rfl, rfl⟩⟩, fun x hx => (by cases hx)⟩, fun x hx hd => ?_⟩, rfl, Fr.of_below hb (Nat.le_refl _), hn, rfl, rfl, Nat.zero_le _, Nat.zero_le _, ⟨D.N.length + 1, by show _ < 0 + _; omega, rfl⟩, rfl⟩
  have := hn x hx
  have := h.lt hd
  omega
set_option maxHeartbeats 8000000 in
theorem found_any {w : World} {p : Nat} {D : Dk} (h : DkAt w p D) (hg : D.Good) (hT : CrcTab w) :
    Calls Tryd.prog 34 #[.iface 22 (.pointer (some ⟨p, 0, none⟩))] w fun e w' => ∃ q D' G, e = .returned (pt q 0) ∧ Opn w w' p q D D' G := by
  have hlen := hg.ok.len
  have hs2 := hg.ok.s2
  have HD := hid (fun x (hx : D.Mem p x) => h.lt hx)
  obtain ⟨na, nc, en, hBn, hn1, hn2, _⟩ := ownBy_shape h.now
  have en' : na = some ⟨D.gn, 0, none⟩ ∧ nc = D.cn := by unfold Dk.nv at en; injection en with e1 e2 e3; exact ⟨e1.symm, e3.symm⟩
  obtain ⟨rfl, rfl⟩ := en'
  have HV : Hid (Calls Tryd.prog 98 #[pt p 0] w fun e w' => e = .returned (.slice (some ⟨D.gn, 0, none⟩) D.N.length D.cn) ∧ w' = w) := view_any h
  have HL : Hid (Calls Tryd.prog 97 #[pt p 0] w fun e w' => e = .returned (.int .i64 D.lives) ∧ w' = w) := life_any h
  have HF0 := hid (fnd_new h)
  have hmv := m_view
  have hml := m_life
  have hbd := build83
  unfold maxLen at hn2
  have i2 : (D.N.length : Int) ≤ D.cn := by omega
  have i3 : (D.cn : Int) ≤ 9223372036854775807 := by omega
  -- one round
  have HRND : Hid (∀ wr G, Fnd w p w.heap.size D wr G → wr.cell? ⟨w.heap.size, 3, none⟩ = some (.int .i64 (G.end_ : Nat)) ∧ (∀ w1, Below wr.heap.size wr w1 → Calls Tryd.prog 15 #[pt w.heap.size 0] w1 fun e w' => ∃ v, e = .returned v ∧ (v = .int .u64 (G.R.length : Nat) ∧ w' = w1)) ∧
      (∀ w1, Below wr.heap.size wr w1 → Calls Tryd.prog 61 #[.slice (if D.cn = G.end_ then some ⟨D.gn, 0, none⟩ else some ⟨D.gn, G.end_, none⟩) (D.N.length - G.end_) (D.cn - G.end_), .int .u64 (G.R.length : Nat)] w1 fun e w' => ∃ v, e = .returned v ∧ (Below w1.heap.size w1 w' ∧ ∃ sa sc, v = .tuple #[.agg #[.int .u64 (rX (rightP (D.N.drop G.end_) G.R.length) G.R.length), .int .u8 (rY (rightP (D.N.drop G.end_) G.R.length)), .slice sa (rB (rightP (D.N.drop G.end_) G.R.length)).length sc], .bool (rightP (D.N.drop G.end_) G.R.length).isSome] ∧ OwnBy w' w1.heap.size (.slice sa (rB (rightP (D.N.drop G.end_) G.R.length)).length sc) (rB (rightP (D.N.drop G.end_) G.R.length))))) := by
    intro wr G hF
    have hbw := hF.below
    refine ⟨hF.jl.lg.row.cell 3 _ rfl, fun w1 hb => ?_, fun w1 hb => ?_⟩
    · refine (len_any (hF.jl.lg.kept hb)).mono ?_
      rintro e w' ⟨rfl, rfl⟩
      exact ⟨_, rfl, rfl, rfl⟩
    · have hle := hF.le
      have hfw := hF.few
      have hB1 : BytesAt w1 (if D.cn = G.end_ then some ⟨D.gn, 0, none⟩ else some ⟨D.gn, G.end_, none⟩) (D.N.drop G.end_) := by
        split
        · rw [List.drop_of_length_le (by omega)]
          exact BytesAt_nil _ _
        · have hs := ((hBn.kept hbw).kept hb).sub G.end_ (D.N.length - G.end_)
          rw [Nat.zero_add, List.take_of_length_le (by simp)] at hs
          exact hs
      refine (right_any hB1 List.length_drop (by omega) (by unfold maxLen; omega) (by omega) (by omega) (hT.kept (below_two hbw hb (Nat.le_refl _)))).mono ?_
      intro e w' hR
      obtain ⟨h1, sa, sc, rfl, h2⟩ := rightAns_tuple hR
      exact ⟨_, rfl, h1, sa, sc, rfl, h2⟩
  have HADD : Hid (∀ wr G w1 k v b, Fnd w p w.heap.size D wr G → rightP (D.N.drop G.end_) G.R.length = some (k, b) → Below wr.heap.size wr w1 → OwnBy w1 wr.heap.size v b → Calls Tryd.prog 39 #[pt w.heap.size 0, .agg #[.int .u64 (G.R.length : Nat), .int .u8 (ub k), v]] w1 fun e w' => e = .returned (.tuple #[]) ∧ ∃ G', Fnd w p w.heap.size D w' G' ∧ D.N.length - G'.end_ < D.N.length - G.end_) := by
    intro wr G w1 k v b hF hr hb hv
    have hle := hF.le
    have hfw := hF.few
    have hln := rightP_len hr
    rw [List.length_drop] at hln
    refine (add_any (x := ⟨k, v, b⟩) (hF.jl.lg.kept hb) (by omega) (by omega) (own_less hv (Nat.zero_le _)) (by show b.length ≤ _; omega)).mono ?_
    rintro e w' ⟨rfl, v', h1, h2, h3⟩
    refine ⟨rfl, _, hF.add HD.out hr hb hv h1 h2 h3, ?_⟩
    show D.N.length - (G.end_ + (18 + b.length)) < _
    omega
  have HEND : Hid (∀ wr G w1, Fnd w p w.heap.size D wr G → rightP (D.N.drop G.end_) G.R.length = none → Below wr.heap.size wr w1 → Calls Tryd.prog 62 #[pt w.heap.size 0] w1 fun e w' => e = .returned (.tuple #[]) ∧ ∃ D' G', Opn w w' p w.heap.size D D' G') := by
    intro wr G w1 hF hr hb
    have hgp := hF.gp
    refine (clean_any (hF.jl.kept hb) hg hF.le).mono ?_
    rintro e w' ⟨rfl, D', hC⟩
    have hs := hF.fr.size
    refine ⟨rfl, D', G, hC.at_, hgp, ?_, hF.new, fun x hx => ?_, hF.born, hF.size, hF.le, hF.few, ?_, hF.en, hC.dS, hC.dN, hC.dW, hC.dl⟩
    · have := (below_two hF.below hb (Nat.le_refl _))
      refine (Fr.of_below (S := D.Mem p) this (Nat.le_refl _)).trans hC.fr (fun x e => .inl (hgp ▸ e))
    · exact hgp ▸ hC.sub x (hgp.symm ▸ hx)
    · obtain ⟨f, hf, hsc⟩ := hF.sc
      cases f with
      | zero => have := hF.le; omega
      | succ f =>
        rw [scan, hr, List.append_nil] at hsc
        exact hsc
  have HQ0 := hid h.row.lt
  clear h hg hlen en hBn hn1 hn2 HD hT
  go_enter Tryd.func34, Tryd.ntmps34
  go_upto_region 3 with (first | (go_at_call 98; refine HV.out.mono ?_; rintro e w1 ⟨rfl, rfl⟩) | (go_at_call 97; refine HL.out.mono ?_; rintro e w1 ⟨rfl, rfl⟩))
  have HF1 := HF0
  clear HF0 HV HL hbd hmv hml
  revert HF1
  generalize w1.alloc (.cells #[.iface 22 (.pointer (some ⟨p, 0, none⟩)), .int .i64 D.lives, .int .i64 (D.N.length : Nat), .int .i64 0, .slice none 0 0] 83) = w0
  intro HF1
  go_loopw [6] (fun _ wr => ∃ G, Fnd w1 p w1.heap.size D wr G) (fun _ wr => D.N.length - (intOf ((wr.cell? ⟨w1.heap.size, 3, none⟩).getD undef)).toNat)
  case atStart => exact ⟨_, HF1.out⟩
  case round =>
    obtain ⟨G, hF⟩ := hrel
    obtain ⟨g3, hLN, hRT⟩ := HRND.out wr G hF
    have hle := hF.le
    have HF := hid hF
    have HLN := hid hLN
    have HRT := hid hRT
    have HAD := hid (fun w1 k v b => HADD.out wr G w1 k v b hF)
    have HEN := hid (fun w1 => HEND.out wr G w1 hF)
    have hme : intOf ((wr.cell? ⟨w1.heap.size, 3, none⟩).getD undef) = (G.end_ : Int) := by rw [g3]; rfl
    have HME := hid hme
    have i1 : (G.end_ : Int) ≤ D.N.length := by omega
    clear hF hLN hRT HRND HADD HEND hme HF1
    generalize hrp : rightP (D.N.drop G.end_) G.R.length = RP at *
    generalize hX : rX RP G.R.length = X at *
    generalize hY : rY RP = Y at *
    generalize hbl : rB RP = bl at *
    generalize hok : RP.isSome = ok at *
    generalize hL : D.N.length = L at *
    generalize hcn : D.cn = cn at *
    generalize hgn : D.gn = gn at *
    generalize hen : G.end_ = en at *
    generalize hq0 : w1.heap.size = q0 at *
    have HALL := hid (And.intro hrp (And.intro hX (And.intro hY (And.intro hbl hok))))
    clear hrp hX hY hbl hok
    obtain ⟨T, hTT⟩ : ∃ T, (if cn = en then some (⟨gn, 0, none⟩ : Addr) else some ⟨gn, en, none⟩) = T := ⟨_, rfl⟩
    rw [hTT] at HRT
    have HTT := hid hTT
    clear hTT
    go_upto_region 3 with fail
    go_cut [5, 6] from 16 to 32 (fun s5 s6 wx => ∃ bx sa sc, s5 = pt bx 0 ∧ s6 = .bool ok ∧ Hid (Row wx bx [.int .u64 X, .int .u8 Y, .slice sa bl.length sc] 41) ∧ Hid (OwnBy wx wr.heap.size (.slice sa bl.length sc) bl) ∧ Hid (Below wr.heap.size wr wx))
    case first =>
      refine wp_region_last (S := fun w' => Hid (Below wr.heap.size wr w') ∧ w'.cell? ⟨q0, 3, none⟩ = some (.int .i64 (en : Nat))) (N := 14) (by kernel_rfl) (by kernel_rfl) fun hNW => ?_
      have hB0 : Below wr.heap.size wr wr.drew := below_drewN (Below.refl _ _) 1
      have hHeld := (show (fun w' => Hid (Below wr.heap.size wr w') ∧ w'.cell? ⟨q0, 3, none⟩ = some (.int .i64 (en : Nat))) wr.drew from ⟨hB0, g3⟩)
      refine wpAnyF_take (i := 0) (oi := { dst := some 17, op := Go.Op.move (Go.Operand.tmp 3), type := 30, pos := "journal.go:41", after := #[], guard := none }) (v := ?v1_0) hNW (by decide) rfl (by kernel_rfl) (by kernel_rfl) (by kernel_rfl) (by kernel_rfl) (fun _ _ _ h => h) (Or.inl ⟨by kernel_rfl, ?h1_0⟩) (by assumption) ?r1_0
      case h1_0 => (intro wt hSw; obtain ⟨-, hs0⟩ := hSw; go_simp; try with_reducible rfl)
      simp only [Act.put, List.setIfInBounds_toArray, List.set_cons_zero, List.set_cons_succ]
      refine wpAnyF_take (i := 1) (oi := { dst := some 18, op := Go.Op.move (Go.Operand.tmp 4), type := 26, pos := "journal.go:41", after := #[], guard := none }) (v := ?v1_1) hNW (by decide) rfl (by kernel_rfl) (by kernel_rfl) (by kernel_rfl) (by kernel_rfl) (fun _ _ _ h => h) (Or.inl ⟨by kernel_rfl, ?h1_1⟩) (by assumption) ?r1_1
      case h1_1 => (intro wt hSw; obtain ⟨-, hs0⟩ := hSw; go_simp; try with_reducible rfl)
      simp only [Act.put, List.setIfInBounds_toArray, List.set_cons_zero, List.set_cons_succ]
      refine wpAnyF_take (i := 2) (oi := { dst := some 19, op := Go.Op.nilCheck (Go.Operand.tmp 18), type := 0, pos := "journal.go:41", after := #[{ on := 1, ground := Go.Ground.data }], guard := none }) (v := ?v1_2) hNW (by decide) rfl (by kernel_rfl) (by kernel_rfl) (by kernel_rfl) (by kernel_rfl) (fun _ _ _ h => h) (Or.inl ⟨by kernel_rfl, ?h1_2⟩) (by assumption) ?r1_2
      case h1_2 => (intro wt hSw; obtain ⟨-, hs0⟩ := hSw; go_simp; try with_reducible rfl)
      simp only [Act.put, List.setIfInBounds_toArray, List.set_cons_zero, List.set_cons_succ]
      refine wpAnyF_take (i := 3) (oi := { dst := some 20, op := Go.Op.fieldAddr 83 (Go.Operand.tmp 19) 3, type := 0, pos := "journal.go:41", after := #[{ on := 2, ground := Go.Ground.data }], guard := none }) (v := ?v1_3) hNW (by decide) rfl (by kernel_rfl) (by kernel_rfl) (by kernel_rfl) (by kernel_rfl) (fun _ _ _ h => h) (Or.inl ⟨by kernel_rfl, ?h1_3⟩) (by assumption) ?r1_3
      case h1_3 => (intro wt hSw; obtain ⟨-, hs0⟩ := hSw; go_simp; try with_reducible rfl)
      simp only [Act.put, List.setIfInBounds_toArray, List.set_cons_zero, List.set_cons_succ]
      refine wpAnyF_take (i := 4) (oi := { dst := some 21, op := Go.Op.load 3 (Go.Operand.tmp 20), type := 3, pos := "journal.go:41", after := #[{ on := 3, ground := Go.Ground.data }], guard := none }) (v := ?v1_4) hNW (by decide) rfl (by kernel_rfl) (by kernel_rfl) (by kernel_rfl) (by kernel_rfl) (fun _ _ _ h => h) (Or.inl ⟨by kernel_rfl, ?h1_4⟩) (by assumption) ?r1_4
      case h1_4 => (intro wt hSw; obtain ⟨-, hs0⟩ := hSw; go_simp; try with_reducible rfl)
      simp only [Act.put, List.setIfInBounds_toArray, List.set_cons_zero, List.set_cons_succ]
      refine wpAnyF_take (i := 5) (oi := { dst := some 22, op := Go.Op.slice 30 (Go.Operand.tmp 17) (some (Go.Operand.tmp 21)) none none, type := 30, pos := "journal.go:41", after := #[{ on := 0, ground := Go.Ground.data }, { on := 4, ground := Go.Ground.data }], guard := none }) (v := .slice T (L - en) (cn - en)) hNW (by decide) rfl (by kernel_rfl) (by kernel_rfl) (by kernel_rfl) (by kernel_rfl) (fun _ _ _ h => h) (Or.inl ⟨by kernel_rfl, ?h1_5⟩) (by assumption) ?r1_5
      case h1_5 => (intro wt hSw; obtain ⟨-, hs0⟩ := hSw; go_simp; first | exact HTT.out | (rw [HTT.out]) | (simp [HTT.out]) | (trace_state; sorry))
      simp only [Act.put, List.setIfInBounds_toArray, List.set_cons_zero, List.set_cons_succ]
      refine wpAnyF_take (i := 6) (oi := { dst := some 23, op := Go.Op.move (Go.Operand.tmp 4), type := 26, pos := "journal.go:41", after := #[], guard := none }) (v := ?v1_6) hNW (by decide) rfl (by kernel_rfl) (by kernel_rfl) (by kernel_rfl) (by kernel_rfl) (fun _ _ _ h => h) (Or.inl ⟨by kernel_rfl, ?h1_6⟩) (by assumption) ?r1_6
      case h1_6 => (intro wt hSw; obtain ⟨-, hs0⟩ := hSw; go_simp; try with_reducible rfl)
      simp only [Act.put, List.setIfInBounds_toArray, List.set_cons_zero, List.set_cons_succ]
      refine wpAnyF_two (i := 7) (oi := { dst := some 24, op := Go.Op.call { callee := Go.Callee.value (Go.Operand.func 15), args := #[Go.Operand.tmp 23], argTypes := #[26] }, type := 35, pos := "journal.go:41", after := #[{ on := 6, ground := Go.Ground.data }], guard := none }) (j := 12) (oj := { dst := some 5, op := Go.Op.alloc 41, type := 0, pos := "journal.go:41", after := #[], guard := none }) rfl rfl rfl rfl (by kernel_rfl) ?_ ?_
      · refine step_callx (f := 15) (args := #[pt q0 0]) (by first | kernel_rfl | go_simp) (HLN.out _ hB0) ?_
        rintro v7 w7 ⟨rfl, rfl⟩
        refine ⟨fun _ => hHeld, ?_⟩
        simp only [Act.put, List.setIfInBounds_toArray, List.set_cons_zero, List.set_cons_succ]
        refine wpAnyF_two (i := 8) (oi := { dst := some 25, op := Go.Op.call { callee := Go.Callee.value (Go.Operand.func 61), args := #[Go.Operand.tmp 22, Go.Operand.tmp 24], argTypes := #[30, 35] }, type := 110, pos := "journal.go:41", after := #[{ on := 5, ground := Go.Ground.data }, { on := 7, ground := Go.Ground.data }, { on := 7, ground := Go.Ground.chain }], guard := none }) (j := 12) (oj := { dst := some 5, op := Go.Op.alloc 41, type := 0, pos := "journal.go:41", after := #[], guard := none }) rfl rfl rfl rfl (by kernel_rfl) ?_ ?_
        · refine step_callx (f := 61) (args := #[.slice T (L - en) (cn - en), .int .u64 (G.R.length : Nat)]) (by first | kernel_rfl | go_simp) (HRT.out _ hB0) ?_
          rintro v8 w8 ⟨hb8, sa, sc, rfl, hO8⟩
          have hB8 : Below wr.heap.size wr w8 := hB0.trans (hb8.mono hB0.size)
          have hHeld8 := (show (fun w' => Hid (Below wr.heap.size wr w') ∧ w'.cell? ⟨q0, 3, none⟩ = some (.int .i64 (en : Nat))) w8 from ⟨hB8, cell_kept hB8 g3⟩)
          refine ⟨fun _ => hHeld8, ?_⟩
          simp only [Act.put, List.setIfInBounds_toArray, List.set_cons_zero, List.set_cons_succ]
          refine wpAnyF_take (i := 9) (oi := { dst := some 16, op := Go.Op.move (Go.Operand.tmp 25), type := 110, pos := "journal.go:41", after := #[{ on := 8, ground := Go.Ground.data }], guard := none }) (v := ?v2_9) hNW (by decide) rfl (by kernel_rfl) (by kernel_rfl) (by kernel_rfl) (by kernel_rfl) (fun _ _ _ h => h) (Or.inl ⟨by kernel_rfl, ?h2_9⟩) (by assumption) ?r2_9
          case h2_9 => (intro wt hSw; obtain ⟨-, hs0⟩ := hSw; go_simp; try with_reducible rfl)
          simp only [Act.put, List.setIfInBounds_toArray, List.set_cons_zero, List.set_cons_succ]
          refine wpAnyF_take (i := 10) (oi := { dst := some 26, op := Go.Op.extract (Go.Operand.tmp 16) 0, type := 41, pos := "journal.go:41", after := #[{ on := 9, ground := Go.Ground.data }], guard := none }) (v := ?v2_10) hNW (by decide) rfl (by kernel_rfl) (by kernel_rfl) (by kernel_rfl) (by kernel_rfl) (fun _ _ _ h => h) (Or.inl ⟨by kernel_rfl, ?h2_10⟩) (by assumption) ?r2_10
          case h2_10 => (intro wt hSw; obtain ⟨-, hs0⟩ := hSw; go_simp; try with_reducible rfl)
          simp only [Act.put, List.setIfInBounds_toArray, List.set_cons_zero, List.set_cons_succ]
          refine wpAnyF_take (i := 11) (oi := { dst := some 27, op := Go.Op.extract (Go.Operand.tmp 16) 1, type := 4, pos := "journal.go:41", after := #[{ on := 9, ground := Go.Ground.data }, { on := 13, ground := Go.Ground.gcOnly Go.Departure.lateStores }], guard := none }) (v := ?v2_11) hNW (by decide) rfl (by kernel_rfl) (by kernel_rfl) (by kernel_rfl) (by kernel_rfl) (fun _ _ _ h => h) (Or.inl ⟨by kernel_rfl, ?h2_11⟩) (by assumption) ?r2_11
          case h2_11 => (intro wt hSw; obtain ⟨-, hs0⟩ := hSw; go_simp; try with_reducible rfl)
          simp only [Act.put, List.setIfInBounds_toArray, List.set_cons_zero, List.set_cons_succ]
          refine wpAnyF_one (i := 12) (o := { dst := some 5, op := Go.Op.alloc 41, type := 0, pos := "journal.go:41", after := #[], guard := none }) rfl rfl (by kernel_rfl) ?_
          refine step_alloc41 rfl ?_
          have hB9 : Below wr.heap.size wr (w8.alloc (.cells #[.int .u64 0, .int .u8 0, .slice none 0 0] 41)) := below_two hB8 (below_new _ _) (Nat.le_refl _)
          have hHeld9 := (show (fun w' => Hid (Below wr.heap.size wr w') ∧ w'.cell? ⟨q0, 3, none⟩ = some (.int .i64 (en : Nat))) (w8.alloc (.cells #[.int .u64 0, .int .u8 0, .slice none 0 0] 41)) from ⟨hB9, cell_kept hB9 g3⟩)
          refine ⟨fun _ => hHeld9, ?_⟩
          simp only [Act.put, List.setIfInBounds_toArray, List.set_cons_zero, List.set_cons_succ]
          have hR9 : Row (w8.alloc (.cells #[.int .u64 0, .int .u8 0, .slice none 0 0] 41)) w8.heap.size [.int .u64 0, .int .u8 0, .slice none 0 0] 41 := Row.new w8 [.int .u64 0, .int .u8 0, .slice none 0 0] 41
          have hO9 := own_less (own_below hO8 (below_new w8 (.cells #[.int .u64 0, .int .u8 0, .slice none 0 0] 41))) hB0.size
          have hBX : wr.heap.size ≤ w8.heap.size := hB8.size
          refine wpAnyF_one (i := 13) (o := { dst := none, op := Go.Op.store 41 (Go.Operand.tmp 5) (Go.Operand.tmp 26), type := 0, pos := "journal.go:41", after := #[{ on := 12, ground := Go.Ground.data }, { on := 10, ground := Go.Ground.data }, { on := 8, ground := Go.Ground.chain }, { on := 0, ground := Go.Ground.phase }, { on := 1, ground := Go.Ground.phase }, { on := 2, ground := Go.Ground.phase }, { on := 3, ground := Go.Ground.phase }, { on := 4, ground := Go.Ground.phase }, { on := 5, ground := Go.Ground.phase }, { on := 6, ground := Go.Ground.phase }, { on := 7, ground := Go.Ground.phase }, { on := 8, ground := Go.Ground.phase }, { on := 9, ground := Go.Ground.phase }, { on := 10, ground := Go.Ground.phase }, { on := 11, ground := Go.Ground.textOnly Go.Departure.lateStores }, { on := 12, ground := Go.Ground.phase }], guard := none }) rfl rfl (by kernel_rfl) ?_
          refine step_store41 (b := w8.heap.size) (X := X) (Y := Y) (sa := sa) (sn := bl.length) (sc := sc) rfl rfl rfl hR9 ?_
          intro w10 R10 F10
          have hB10 : Below wr.heap.size wr w10 := hB9.trans (F10.below (fun x e => by subst e; exact hBX) (by exact hB9.size))
          have hHeld10 := (show (fun w' => Hid (Below wr.heap.size wr w') ∧ w'.cell? ⟨q0, 3, none⟩ = some (.int .i64 (en : Nat))) w10 from ⟨hB10, cell_kept hB10 g3⟩)
          refine ⟨fun _ => hHeld10, ?_⟩
          simp only [Act.put]
          refine wpAnyF_one (i := 14) (o := { dst := some 6, op := Go.Op.assign (Go.Operand.tmp 27), type := 4, pos := "journal.go:41", after := #[{ on := 11, ground := Go.Ground.data }, { on := 13, ground := Go.Ground.chain }, { on := 0, ground := Go.Ground.phase }, { on := 1, ground := Go.Ground.phase }, { on := 2, ground := Go.Ground.phase }, { on := 3, ground := Go.Ground.phase }, { on := 4, ground := Go.Ground.phase }, { on := 5, ground := Go.Ground.phase }, { on := 6, ground := Go.Ground.phase }, { on := 7, ground := Go.Ground.phase }, { on := 8, ground := Go.Ground.phase }, { on := 9, ground := Go.Ground.phase }, { on := 10, ground := Go.Ground.phase }, { on := 11, ground := Go.Ground.phase }, { on := 12, ground := Go.Ground.phase }, { on := 13, ground := Go.Ground.phase }], guard := none }) rfl rfl (by kernel_rfl) ?_
          refine step_val (v := .bool ok) (w' := w10) (by first | kernel_rfl | go_simp) ?_
          refine ⟨fun h => absurd rfl h, ?_⟩
          simp only [Act.put]
          refine wpAnyF_done (by kernel_rfl) ?_ _
          clear hNW
          go_wp2_with fail
          go_meet
          exact ⟨w8.heap.size, sa, sc, rfl, rfl, R10, F10.own hO9 (fun x e e' => by obtain ⟨cur, hg⟩ := own_blk hO9 e; subst e'; exact absurd (cells_type hR9.at_ hg) (by decide)), hB10⟩
        · refine step_alloc41 rfl ?_
          have hBz : Below wr.heap.size wr (wr.drew.alloc (.cells #[.int .u64 0, .int .u8 0, .slice none 0 0] 41)) := below_two hB0 (below_new _ _) (Nat.le_refl _)
          have hHeldz := (show (fun w' => Hid (Below wr.heap.size wr w') ∧ w'.cell? ⟨q0, 3, none⟩ = some (.int .i64 (en : Nat))) (wr.drew.alloc (.cells #[.int .u64 0, .int .u8 0, .slice none 0 0] 41)) from ⟨hBz, cell_kept hBz g3⟩)
          refine ⟨fun _ => hHeldz, ?_⟩
          simp only [Act.put, List.setIfInBounds_toArray, List.set_cons_zero, List.set_cons_succ]
          refine wpAnyF_one (i := 8) (o := { dst := some 25, op := Go.Op.call { callee := Go.Callee.value (Go.Operand.func 61), args := #[Go.Operand.tmp 22, Go.Operand.tmp 24], argTypes := #[30, 35] }, type := 110, pos := "journal.go:41", after := #[{ on := 5, ground := Go.Ground.data }, { on := 7, ground := Go.Ground.data }, { on := 7, ground := Go.Ground.chain }], guard := none }) rfl rfl (by kernel_rfl) ?_
          refine step_callx (f := 61) (args := #[.slice T (L - en) (cn - en), .int .u64 (G.R.length : Nat)]) (by first | kernel_rfl | go_simp) (HRT.out _ hBz) ?_
          rintro v8 w8 ⟨hb8, sa, sc, rfl, hO8⟩
          have hB8 : Below wr.heap.size wr w8 := hBz.trans (hb8.mono hBz.size)
          have hHeld8 := (show (fun w' => Hid (Below wr.heap.size wr w') ∧ w'.cell? ⟨q0, 3, none⟩ = some (.int .i64 (en : Nat))) w8 from ⟨hB8, cell_kept hB8 g3⟩)
          refine ⟨fun _ => hHeld8, ?_⟩
          simp only [Act.put, List.setIfInBounds_toArray, List.set_cons_zero, List.set_cons_succ]
          refine wpAnyF_take (i := 9) (oi := { dst := some 16, op := Go.Op.move (Go.Operand.tmp 25), type := 110, pos := "journal.go:41", after := #[{ on := 8, ground := Go.Ground.data }], guard := none }) (v := ?v3_9) hNW (by decide) rfl (by kernel_rfl) (by kernel_rfl) (by kernel_rfl) (by kernel_rfl) (fun _ _ _ h => h) (Or.inl ⟨by kernel_rfl, ?h3_9⟩) (by assumption) ?r3_9
          case h3_9 => (intro wt hSw; obtain ⟨-, hs0⟩ := hSw; go_simp; try with_reducible rfl)
          simp only [Act.put, List.setIfInBounds_toArray, List.set_cons_zero, List.set_cons_succ]
          refine wpAnyF_take (i := 10) (oi := { dst := some 26, op := Go.Op.extract (Go.Operand.tmp 16) 0, type := 41, pos := "journal.go:41", after := #[{ on := 9, ground := Go.Ground.data }], guard := none }) (v := ?v3_10) hNW (by decide) rfl (by kernel_rfl) (by kernel_rfl) (by kernel_rfl) (by kernel_rfl) (fun _ _ _ h => h) (Or.inl ⟨by kernel_rfl, ?h3_10⟩) (by assumption) ?r3_10
          case h3_10 => (intro wt hSw; obtain ⟨-, hs0⟩ := hSw; go_simp; try with_reducible rfl)
          simp only [Act.put, List.setIfInBounds_toArray, List.set_cons_zero, List.set_cons_succ]
          refine wpAnyF_take (i := 11) (oi := { dst := some 27, op := Go.Op.extract (Go.Operand.tmp 16) 1, type := 4, pos := "journal.go:41", after := #[{ on := 9, ground := Go.Ground.data }, { on := 13, ground := Go.Ground.gcOnly Go.Departure.lateStores }], guard := none }) (v := ?v3_11) hNW (by decide) rfl (by kernel_rfl) (by kernel_rfl) (by kernel_rfl) (by kernel_rfl) (fun _ _ _ h => h) (Or.inl ⟨by kernel_rfl, ?h3_11⟩) (by assumption) ?r3_11
          case h3_11 => (intro wt hSw; obtain ⟨-, hs0⟩ := hSw; go_simp; try with_reducible rfl)
          simp only [Act.put, List.setIfInBounds_toArray, List.set_cons_zero, List.set_cons_succ]
          have hR9 : Row w8 wr.drew.heap.size [.int .u64 0, .int .u8 0, .slice none 0 0] 41 := (Row.new wr.drew [.int .u64 0, .int .u8 0, .slice none 0 0] 41).kept hb8 (by simp)
          have hO9 := own_less hO8 hBz.size
          have hBX : wr.heap.size ≤ wr.drew.heap.size := Nat.le_refl _
          refine wpAnyF_one (i := 13) (o := { dst := none, op := Go.Op.store 41 (Go.Operand.tmp 5) (Go.Operand.tmp 26), type := 0, pos := "journal.go:41", after := #[{ on := 12, ground := Go.Ground.data }, { on := 10, ground := Go.Ground.data }, { on := 8, ground := Go.Ground.chain }, { on := 0, ground := Go.Ground.phase }, { on := 1, ground := Go.Ground.phase }, { on := 2, ground := Go.Ground.phase }, { on := 3, ground := Go.Ground.phase }, { on := 4, ground := Go.Ground.phase }, { on := 5, ground := Go.Ground.phase }, { on := 6, ground := Go.Ground.phase }, { on := 7, ground := Go.Ground.phase }, { on := 8, ground := Go.Ground.phase }, { on := 9, ground := Go.Ground.phase }, { on := 10, ground := Go.Ground.phase }, { on := 11, ground := Go.Ground.textOnly Go.Departure.lateStores }, { on := 12, ground := Go.Ground.phase }], guard := none }) rfl rfl (by kernel_rfl) ?_
          refine step_store41 (b := wr.drew.heap.size) (X := X) (Y := Y) (sa := sa) (sn := bl.length) (sc := sc) rfl rfl rfl hR9 ?_
          intro w10 R10 F10
          have hB10 : Below wr.heap.size wr w10 := hB8.trans (F10.below (fun x e => by subst e; exact hBX) (by exact hB8.size))
          have hHeld10 := (show (fun w' => Hid (Below wr.heap.size wr w') ∧ w'.cell? ⟨q0, 3, none⟩ = some (.int .i64 (en : Nat))) w10 from ⟨hB10, cell_kept hB10 g3⟩)
          refine ⟨fun _ => hHeld10, ?_⟩
          simp only [Act.put]
          refine wpAnyF_one (i := 14) (o := { dst := some 6, op := Go.Op.assign (Go.Operand.tmp 27), type := 4, pos := "journal.go:41", after := #[{ on := 11, ground := Go.Ground.data }, { on := 13, ground := Go.Ground.chain }, { on := 0, ground := Go.Ground.phase }, { on := 1, ground := Go.Ground.phase }, { on := 2, ground := Go.Ground.phase }, { on := 3, ground := Go.Ground.phase }, { on := 4, ground := Go.Ground.phase }, { on := 5, ground := Go.Ground.phase }, { on := 6, ground := Go.Ground.phase }, { on := 7, ground := Go.Ground.phase }, { on := 8, ground := Go.Ground.phase }, { on := 9, ground := Go.Ground.phase }, { on := 10, ground := Go.Ground.phase }, { on := 11, ground := Go.Ground.phase }, { on := 12, ground := Go.Ground.phase }, { on := 13, ground := Go.Ground.phase }], guard := none }) rfl rfl (by kernel_rfl) ?_
          refine step_val (v := .bool ok) (w' := w10) (by first | kernel_rfl | go_simp) ?_
          refine ⟨fun h => absurd rfl h, ?_⟩
          simp only [Act.put]
          refine wpAnyF_done (by kernel_rfl) ?_ _
          clear hNW
          go_wp2_with fail
          go_meet
          exact ⟨wr.drew.heap.size, sa, sc, rfl, rfl, R10, F10.own hO9 (fun x e e' => by obtain ⟨cur, hg⟩ := own_blk hO9 e; subst e'; exact absurd (cells_type hR9.at_ hg) (by decide)), hB10⟩
      · refine step_alloc41 rfl ?_
        have hBz : Below wr.heap.size wr (wr.drew.alloc (.cells #[.int .u64 0, .int .u8 0, .slice none 0 0] 41)) := below_two hB0 (below_new _ _) (Nat.le_refl _)
        have hHeldz := (show (fun w' => Hid (Below wr.heap.size wr w') ∧ w'.cell? ⟨q0, 3, none⟩ = some (.int .i64 (en : Nat))) (wr.drew.alloc (.cells #[.int .u64 0, .int .u8 0, .slice none 0 0] 41)) from ⟨hBz, cell_kept hBz g3⟩)
        refine ⟨fun _ => hHeldz, ?_⟩
        simp only [Act.put, List.setIfInBounds_toArray, List.set_cons_zero, List.set_cons_succ]
        refine wpAnyF_one (i := 7) (o := { dst := some 24, op := Go.Op.call { callee := Go.Callee.value (Go.Operand.func 15), args := #[Go.Operand.tmp 23], argTypes := #[26] }, type := 35, pos := "journal.go:41", after := #[{ on := 6, ground := Go.Ground.data }], guard := none }) rfl rfl (by kernel_rfl) ?_
        refine step_callx (f := 15) (args := #[pt q0 0]) (by first | kernel_rfl | go_simp) (HLN.out _ hBz) ?_
        rintro v7 w7 ⟨rfl, rfl⟩
        refine ⟨fun _ => hHeldz, ?_⟩
        simp only [Act.put, List.setIfInBounds_toArray, List.set_cons_zero, List.set_cons_succ]
        refine wpAnyF_one (i := 8) (o := { dst := some 25, op := Go.Op.call { callee := Go.Callee.value (Go.Operand.func 61), args := #[Go.Operand.tmp 22, Go.Operand.tmp 24], argTypes := #[30, 35] }, type := 110, pos := "journal.go:41", after := #[{ on := 5, ground := Go.Ground.data }, { on := 7, ground := Go.Ground.data }, { on := 7, ground := Go.Ground.chain }], guard := none }) rfl rfl (by kernel_rfl) ?_
        refine step_callx (f := 61) (args := #[.slice T (L - en) (cn - en), .int .u64 (G.R.length : Nat)]) (by first | kernel_rfl | go_simp) (HRT.out _ hBz) ?_
        rintro v8 w8 ⟨hb8, sa, sc, rfl, hO8⟩
        have hB8 : Below wr.heap.size wr w8 := hBz.trans (hb8.mono hBz.size)
        have hHeld8 := (show (fun w' => Hid (Below wr.heap.size wr w') ∧ w'.cell? ⟨q0, 3, none⟩ = some (.int .i64 (en : Nat))) w8 from ⟨hB8, cell_kept hB8 g3⟩)
        refine ⟨fun _ => hHeld8, ?_⟩
        simp only [Act.put, List.setIfInBounds_toArray, List.set_cons_zero, List.set_cons_succ]
        refine wpAnyF_take (i := 9) (oi := { dst := some 16, op := Go.Op.move (Go.Operand.tmp 25), type := 110, pos := "journal.go:41", after := #[{ on := 8, ground := Go.Ground.data }], guard := none }) (v := ?v4_9) hNW (by decide) rfl (by kernel_rfl) (by kernel_rfl) (by kernel_rfl) (by kernel_rfl) (fun _ _ _ h => h) (Or.inl ⟨by kernel_rfl, ?h4_9⟩) (by assumption) ?r4_9
        case h4_9 => (intro wt hSw; obtain ⟨-, hs0⟩ := hSw; go_simp; try with_reducible rfl)
        simp only [Act.put, List.setIfInBounds_toArray, List.set_cons_zero, List.set_cons_succ]
        refine wpAnyF_take (i := 10) (oi := { dst := some 26, op := Go.Op.extract (Go.Operand.tmp 16) 0, type := 41, pos := "journal.go:41", after := #[{ on := 9, ground := Go.Ground.data }], guard := none }) (v := ?v4_10) hNW (by decide) rfl (by kernel_rfl) (by kernel_rfl) (by kernel_rfl) (by kernel_rfl) (fun _ _ _ h => h) (Or.inl ⟨by kernel_rfl, ?h4_10⟩) (by assumption) ?r4_10
        case h4_10 => (intro wt hSw; obtain ⟨-, hs0⟩ := hSw; go_simp; try with_reducible rfl)
        simp only [Act.put, List.setIfInBounds_toArray, List.set_cons_zero, List.set_cons_succ]
        refine wpAnyF_take (i := 11) (oi := { dst := some 27, op := Go.Op.extract (Go.Operand.tmp 16) 1, type := 4, pos := "journal.go:41", after := #[{ on := 9, ground := Go.Ground.data }, { on := 13, ground := Go.Ground.gcOnly Go.Departure.lateStores }], guard := none }) (v := ?v4_11) hNW (by decide) rfl (by kernel_rfl) (by kernel_rfl) (by kernel_rfl) (by kernel_rfl) (fun _ _ _ h => h) (Or.inl ⟨by kernel_rfl, ?h4_11⟩) (by assumption) ?r4_11
        case h4_11 => (intro wt hSw; obtain ⟨-, hs0⟩ := hSw; go_simp; try with_reducible rfl)
        simp only [Act.put, List.setIfInBounds_toArray, List.set_cons_zero, List.set_cons_succ]
        have hR9 : Row w8 wr.drew.heap.size [.int .u64 0, .int .u8 0, .slice none 0 0] 41 := (Row.new wr.drew [.int .u64 0, .int .u8 0, .slice none 0 0] 41).kept hb8 (by simp)
        have hO9 := own_less hO8 hBz.size
        have hBX : wr.heap.size ≤ wr.drew.heap.size := Nat.le_refl _
        refine wpAnyF_one (i := 13) (o := { dst := none, op := Go.Op.store 41 (Go.Operand.tmp 5) (Go.Operand.tmp 26), type := 0, pos := "journal.go:41", after := #[{ on := 12, ground := Go.Ground.data }, { on := 10, ground := Go.Ground.data }, { on := 8, ground := Go.Ground.chain }, { on := 0, ground := Go.Ground.phase }, { on := 1, ground := Go.Ground.phase }, { on := 2, ground := Go.Ground.phase }, { on := 3, ground := Go.Ground.phase }, { on := 4, ground := Go.Ground.phase }, { on := 5, ground := Go.Ground.phase }, { on := 6, ground := Go.Ground.phase }, { on := 7, ground := Go.Ground.phase }, { on := 8, ground := Go.Ground.phase }, { on := 9, ground := Go.Ground.phase }, { on := 10, ground := Go.Ground.phase }, { on := 11, ground := Go.Ground.textOnly Go.Departure.lateStores }, { on := 12, ground := Go.Ground.phase }], guard := none }) rfl rfl (by kernel_rfl) ?_
        refine step_store41 (b := wr.drew.heap.size) (X := X) (Y := Y) (sa := sa) (sn := bl.length) (sc := sc) rfl rfl rfl hR9 ?_
        intro w10 R10 F10
        have hB10 : Below wr.heap.size wr w10 := hB8.trans (F10.below (fun x e => by subst e; exact hBX) (by exact hB8.size))
        have hHeld10 := (show (fun w' => Hid (Below wr.heap.size wr w') ∧ w'.cell? ⟨q0, 3, none⟩ = some (.int .i64 (en : Nat))) w10 from ⟨hB10, cell_kept hB10 g3⟩)
        refine ⟨fun _ => hHeld10, ?_⟩
        simp only [Act.put]
        refine wpAnyF_one (i := 14) (o := { dst := some 6, op := Go.Op.assign (Go.Operand.tmp 27), type := 4, pos := "journal.go:41", after := #[{ on := 11, ground := Go.Ground.data }, { on := 13, ground := Go.Ground.chain }, { on := 0, ground := Go.Ground.phase }, { on := 1, ground := Go.Ground.phase }, { on := 2, ground := Go.Ground.phase }, { on := 3, ground := Go.Ground.phase }, { on := 4, ground := Go.Ground.phase }, { on := 5, ground := Go.Ground.phase }, { on := 6, ground := Go.Ground.phase }, { on := 7, ground := Go.Ground.phase }, { on := 8, ground := Go.Ground.phase }, { on := 9, ground := Go.Ground.phase }, { on := 10, ground := Go.Ground.phase }, { on := 11, ground := Go.Ground.phase }, { on := 12, ground := Go.Ground.phase }, { on := 13, ground := Go.Ground.phase }], guard := none }) rfl rfl (by kernel_rfl) ?_
        refine step_val (v := .bool ok) (w' := w10) (by first | kernel_rfl | go_simp) ?_
        refine ⟨fun h => absurd rfl h, ?_⟩
        simp only [Act.put]
        refine wpAnyF_done (by kernel_rfl) ?_ _
        clear hNW
        go_wp2_with fail
        go_meet
        exact ⟨wr.drew.heap.size, sa, sc, rfl, rfl, R10, F10.own hO9 (fun x e e' => by obtain ⟨cur, hg⟩ := own_blk hO9 e; subst e'; exact absurd (cells_type hR9.at_ hg) (by decide)), hB10⟩
    case rest =>
      obtain ⟨bx, sa, sc, rfl, rfl, HR, HO, HB⟩ := hcut
      have r0 := HR.out.cell 0 _ rfl
      have r1 := HR.out.cell 1 _ rfl
      have r2 := HR.out.cell 2 _ rfl
      obtain ⟨hrp, hX, hY, hbl, hok⟩ := HALL.out
      cases RP with
      | none =>
        obtain rfl : ok = false := hok.symm
        have HE := hid (HEN.out wc rfl HB.out)
        clear hrp hX hY hbl hok HALL HLN HRT HAD HEN HTT r0 r1 r2
        go_wp2_with (go_at_call 62; refine HE.out.mono ?_; rintro e w7 ⟨rfl, hZ⟩; have HZ := hid hZ; clear hZ)
        go_ret
        obtain ⟨D', G', hO⟩ := HZ.out
        exact ⟨_, D', G', rfl, hO⟩
      | some x =>
        obtain ⟨k, b⟩ := x
        obtain rfl : ok = true := hok.symm
        obtain rfl : bl = b := hbl.symm
        obtain rfl : X = (G.R.length : Int) := hX.symm
        obtain rfl : Y = ub k := hY.symm
        have HE := hid (HAD.out wc k _ bl rfl HB.out HO.out)
        clear hrp hX hY hbl hok HALL HLN HRT HAD HEN HTT
        go_wp2_with (go_at_call 39; refine HE.out.mono ?_; rintro e w7 ⟨rfl, hZ⟩; have HZ := hid hZ; clear hZ)
        go_roundw
        case rel =>
          obtain ⟨G', hF', _⟩ := HZ.out
          exact ⟨G', hF'⟩
        case measure =>
          obtain ⟨G', hF', hlt⟩ := HZ.out
          have h3 : w7.cell? ⟨q0, 3, none⟩ = some (.int .i64 (G'.end_ : Nat)) := hF'.jl.lg.row.cell 3 _ rfl
          have hm := HME.out
          rw [hm, h3]
          show _ - ((G'.end_ : Nat) : Int).toNat < _
          omega
theorem open_any {w : World} {p : Nat} {D : Dk} (h : DkAt w p D) (hg : D.Good) (hT : CrcTab w) :
    Calls Tryd.prog 9 #[pt p 0] w fun e w' => ∃ q D' G, e = .returned (.tuple #[pt q 0, .int .i64 0]) ∧ Opn w w' p q { D with lives := nx D.lives } D' G := by
  have c3 := h.row.cell 3 _ rfl
  have f3 := h.row.frozen 3
  have hL := h.live (nx D.lives)
  have hne : 0 ≠ p := fun e => by
    subst e
    have h1 := hT 0 (by decide)
    rw [h.row.cell 0 _ rfl] at h1
    cases h1
  have hF := (Fr.refl (fun x => x = p) w).setCell p 3 (.int .i64 (nx D.lives)) (.inl rfl)
  have hT0 : CrcTab (w.setCell ⟨p, 3, none⟩ (.int .i64 (nx D.lives))) := fun j hj => hF.cell (hT j hj) (fun e => hne e)
  have hsz : (w.setCell ⟨p, 3, none⟩ (.int .i64 (nx D.lives))).heap.size = w.heap.size := by simp [World.setCell]
  have HC : Hid (Calls Tryd.prog 34 #[.iface 22 (.pointer (some ⟨p, 0, none⟩))] (w.setCell ⟨p, 3, none⟩ (.int .i64 (nx D.lives))) fun e w' => ∃ q, e = .returned (pt q 0) ∧ ∃ D' G, Opn w w' p q { D with lives := nx D.lives } D' G) := by
    refine (found_any hL ⟨⟨hg.ok.len, hg.ok.s1, hg.ok.s2, hg.ok.fit⟩, hg.pos, hg.few, hg.now⟩ hT0).mono ?_
    rintro e w' ⟨q, D', G, rfl, hO⟩
    refine ⟨q, rfl, D', G, { hO with fr := ?_, gnew := ?_ }⟩
    · exact (hF.wider (T := Dk.Mem { D with lives := nx D.lives } p) (fun x e => .inl e)).trans hO.fr (fun x e => .inl e)
    · intro x hx
      have := hO.gnew x hx
      rw [hsz] at this
      exact this
  have hnx : IntKind.i64.wrap (D.lives + 1) = nx D.lives := rfl
  generalize D.lives = lv at *
  clear h hg hT hL hne hF hT0 hsz
  generalize nx lv = lw at *
  go_enter Tryd.func9, Tryd.ntmps9
  go_wp2_with (go_at_call 34; refine HC.out.mono ?_; rintro e w2 ⟨q, rfl, hZ⟩; have HZ := hid hZ; clear hZ)
  go_ret2
  obtain ⟨D', G, hO⟩ := HZ.out
  exact ⟨q, D', G, rfl, hO⟩
end Go.Proofs.YtfhjiggaacgncaaDoor
