import Derived.Test.YtimiokbnhneggabS2b
import Derived.Deep.CutRange
import Derived.Deep.CutBlock
namespace Go.Proofs.Ytimiokbnhneggab
open Go.RowKit Go.Maps Go.Sort
set_option maxRecDepth 100000

/-- A piece covers a place. -/
def cov (base : Int) (N : Nat) (o : Pc) (x : Int) : Prop := o.fin = false ∧ base + cutF o.x N ≤ x ∧ x < base + cutF o.x N + cutL o.x o.y N
/-- What a buffer that was told the pieces Q knows. -/
structure AnyI (s : List (BitVec 8)) (base : Int) (F : Bf) (f : Int → BitVec 8) (Q : List Pc) : Prop where
  st : StrI s base F f 0 (Q.any (·.fin))
  rm : F.room = (s.length : Int) + 1
  gp : F.gaps = 64
  few : F.L.length ≤ Q.length
  cv : ∀ x, mem F.L x ↔ ∃ o ∈ Q, cov base s.length o x
theorem any_snoc (Q : List Pc) (o : Pc) : (Q ++ [o]).any (·.fin) = (Q.any (·.fin) || o.fin) := by simp
theorem AnyI.take {s : List (BitVec 8)} {base : Int} {F : Bf} {f : Int → BitVec 8} {Q : List Pc} (I : AnyI s base F f Q) (ok : F.Ok) {o : Pc} (ho : o.fin = false) (hq : Q.length < 60) {fr ln : Nat} (hf : cutF o.x s.length = fr) (hl : cutL o.x o.y s.length = ln) :
    AnyI s base (F.tk (base + fr) ln) (F.tkf f (base + fr) ((s.drop fr).take ln)) (Q ++ [o]) ∧ (ln ≠ 0 → F.refuses (base + fr) ln = 0) := by
  have hfl : fr + ln ≤ s.length := by have := (cutL_le o.x o.y s.length).1; omega
  obtain ⟨t1, t2⟩ := I.st.take ok hfl
  have hed : F.edge = base + s.length + 1 := by unfold Bf.edge; rw [I.st.rd, I.rm]; simp; omega
  have hr : ln ≠ 0 → F.refuses (base + fr) ln = 0 := fun hz => by
    rcases t2 with e | e | e | e
    · exact e.1
    · exact absurd e.2 hz
    · have := e.2; omega
    · exfalso
      have h86 := e.1
      have hc : F.crowds (base + fr) ln = false := by
        unfold Bf.crowds
        split
        · rfl
        · have h1 := addL_length ok.fit (base + (fr : Int), base + (fr : Int) + ln)
          have h2 := I.few
          have h3 := I.gp
          simp only [decide_eq_false_iff_not]
          split <;> omega
      unfold Bf.refuses at h86
      rw [if_neg (by omega), if_neg (by omega)] at h86
      split at h86
      · cases h86
      · rw [hc] at h86; simp at h86
  have e0 : (Q ++ [o]).any (·.fin) = Q.any (·.fin) := by rw [any_snoc, ho, Bool.or_false]
  refine ⟨⟨by rw [e0]; exact t1, (tk_edge F _ _).2.trans I.rm, by unfold Bf.tk; split <;> exact I.gp, ?_, fun x => ?_⟩, hr⟩
  · unfold Bf.tk
    have := I.few
    split
    · have h1 := addL_length ok.fit (F.rg (base + fr) ln)
      show (addL F.L _).length ≤ _
      simp; omega
    · simp; omega
  · have hQ : (∃ o' ∈ Q ++ [o], cov base s.length o' x) ↔ (∃ o' ∈ Q, cov base s.length o' x) ∨ (base + fr ≤ x ∧ x < base + fr + ln) := by
      constructor
      · rintro ⟨o', h1, h2⟩
        rcases List.mem_append.1 h1 with h | h
        · exact .inl ⟨o', h, h2⟩
        · obtain rfl : o' = o := by simpa using h
          right
          have := h2.2
          rw [hf, hl] at this
          exact this
      · rintro (⟨o', h1, h2⟩ | h)
        · exact ⟨o', List.mem_append_left _ h1, h2⟩
        · exact ⟨o, by simp, ho, by rw [hf, hl]; exact h⟩
    rw [hQ, ← I.cv x]
    unfold Bf.tk
    by_cases hz : F.refuses (base + fr) ln = 0
    · rw [if_pos hz]
      show mem (addL F.L (F.rg (base + fr) ln)) x ↔ _
      rw [addL_mem ok.fit]
      unfold Bf.rg
      have hrd := I.st.rd
      simp only
      constructor
      · rintro (h | h)
        · exact .inl h
        · right; omega
      · rintro (h | h)
        · exact .inl h
        · right; omega
    · rw [if_neg hz]
      have : ln = 0 := Decidable.byContradiction fun e => hz (hr e)
      constructor
      · exact .inl
      · rintro (h | h)
        · exact h
        · omega
theorem AnyI.fin {s : List (BitVec 8)} {base : Int} {F : Bf} {f : Int → BitVec 8} {Q : List Pc} (I : AnyI s base F f Q) (ok : F.Ok) {o : Pc} (ho : o.fin = true) :
    AnyI s base (F.endAt (base + s.length)) f (Q ++ [o]) := by
  have hed : F.edge = base + s.length + 1 := by unfold Bf.edge; rw [I.st.rd, I.rm]; simp; omega
  have e0 : (Q ++ [o]).any (·.fin) = true := by rw [any_snoc, ho, Bool.or_true]
  have hL : (F.endAt (base + s.length)).L = F.L ∧ (F.endAt (base + s.length)).gaps = F.gaps := by unfold Bf.endAt; split <;> exact ⟨rfl, rfl⟩
  rcases I.st.fin ok with e | e
  · refine ⟨by rw [e0]; exact e.2.2, (end_room F _).2.trans I.rm, hL.2.trans I.gp, by rw [hL.1]; have := I.few; simp; omega, fun x => ?_⟩
    rw [hL.1, I.cv x]
    constructor
    · rintro ⟨o', h1, h2⟩; exact ⟨o', List.mem_append_left _ h1, h2⟩
    · rintro ⟨o', h1, h2⟩
      rcases List.mem_append.1 h1 with h | h
      · exact ⟨o', h, h2⟩
      · obtain rfl : o' = o := by simpa using h
        have := h2.1
        rw [ho] at this
        cases this
  · have := e.2.1; omega
/-- Two that were told the same pieces. -/
theorem AnyI.same {s : List (BitVec 8)} {base : Int} {F G : Bf} {f g : Int → BitVec 8} {Q R : List Pc} (I : AnyI s base F f Q) (J : AnyI s base G g R) (kF : F.Ok) (kG : G.Ok) (h : ∀ o, o ∈ Q ↔ o ∈ R) :
    F.L = G.L ∧ F.read = G.read ∧ F.ends = G.ends ∧ F.fin = G.fin ∧ F.gap = G.gap ∧ F.next = G.next ∧ F.rdB f s.length = G.rdB g s.length ∧ ((F.rdB f s.length).length : Int) = F.gap - F.read := by
  have hL : F.L = G.L := fit_ext _ _ kF.fit kG.fit (fun x => by
    rw [I.cv x, J.cv x]
    constructor
    · rintro ⟨o, h1, h2⟩; exact ⟨o, (h o).1 h1, h2⟩
    · rintro ⟨o, h1, h2⟩; exact ⟨o, (h o).2 h1, h2⟩)
  have hr : F.read = G.read := by rw [I.st.rd, J.st.rd]
  have ha : Q.any (·.fin) = R.any (·.fin) := by
    rw [Bool.eq_iff_iff, List.any_eq_true, List.any_eq_true]
    constructor
    · rintro ⟨o, h1, h2⟩; exact ⟨o, (h o).1 h1, h2⟩
    · rintro ⟨o, h1, h2⟩; exact ⟨o, (h o).2 h1, h2⟩
  have he : F.ends = G.ends := by rw [I.st.en, J.st.en, ha]
  have hf : F.fin = G.fin := by
    cases hq : F.ends with
    | false => rw [kF.fin2 hq, kG.fin2 (he ▸ hq)]
    | true => rw [I.st.fi (I.st.en ▸ hq), J.st.fi (by rw [← ha]; exact I.st.en ▸ hq)]
  have hg : F.gap = G.gap := by unfold Bf.gap; rw [hL, hr]
  have hd : F.done = G.done := by unfold Bf.done; rw [he, hf, hg]
  have hn : F.next = G.next := by unfold Bf.next; rw [hd, hf, hg]
  obtain ⟨g1, g2, g3⟩ := gap_edge kF
  have hgl : F.gap - F.read ≤ s.length := by
    by_cases hz : F.gap = F.read
    · omega
    · have := (I.st.inn (F.gap - 1) (gap_all kF.fit F.read (F.gap - 1) (by omega) (by show _ < F.gap; omega))).2.1
      have := I.st.rd
      omega
  have hln : ((F.rdB f s.length).length : Int) = F.gap - F.read := by
    unfold Bf.rdB
    split
    · simp; omega
    · rw [bytesFrom_len]
      have := (cnt_le kF (n := (s.length : Int)) (by omega)).1
      omega
  have hln2 : ((G.rdB g s.length).length : Int) = G.gap - G.read := by
    unfold Bf.rdB
    split
    · simp; omega
    · rw [bytesFrom_len]
      have := (cnt_le kG (n := (s.length : Int)) (by omega)).1
      omega
  have r1 := (I.st.read kF (n := (s.length : Int)) (by omega)).2.1
  have r2 := (J.st.read kG (n := (s.length : Int)) (by omega)).2.1
  refine ⟨hL, hr, he, hf, hg, hn, ?_, hln⟩
  rw [r1, r2]
  congr 1
  omega
/-- The pieces in their second order. -/
def turnedL (P : List Pc) (n f0 i : Nat) : List Pc := (List.range i).map fun j => P.getD ((f0 + j) % n) ⟨0, 0, false, 0⟩
theorem turned_next (P : List Pc) (n f0 i : Nat) : turnedL P n f0 (i + 1) = turnedL P n f0 i ++ [P.getD ((f0 + i) % n) ⟨0, 0, false, 0⟩] := by
  unfold turnedL
  rw [List.range_succ, List.map_append]
  rfl
theorem turned_mem {P : List Pc} {n f0 : Nat} (hn : n ≤ P.length) (h0 : f0 < n ∨ n = 0) (o : Pc) : o ∈ P.take n ↔ o ∈ turnedL P n f0 n := by
  unfold turnedL
  rw [List.mem_take_iff_getElem, List.mem_map]
  constructor
  · rintro ⟨i, hi, rfl⟩
    have hin : i < n := by omega
    have hn0 : 0 < n := by omega
    refine ⟨(i + n - f0) % n, List.mem_range.2 (Nat.mod_lt _ hn0), ?_⟩
    have e : (f0 + (i + n - f0) % n) % n = i := by
      rw [Nat.add_mod, Nat.mod_mod, ← Nat.add_mod, show f0 + (i + n - f0) = i + n by omega, Nat.add_mod_right, Nat.mod_eq_of_lt hin]
    rw [e]
    simp [List.getD, show i < P.length by omega]
  · rintro ⟨j, hj, rfl⟩
    have hj' : j < n := List.mem_range.1 hj
    have hm : (f0 + j) % n < n := Nat.mod_lt _ (by omega)
    refine ⟨(f0 + j) % n, by omega, ?_⟩
    simp [List.getD, show (f0 + j) % n < P.length by omega]
end Go.Proofs.Ytimiokbnhneggab
namespace Go.Proofs.Ytimiokbnhneggab
open Go.RowKit Go.Maps Go.Sort
set_option maxRecDepth 100000

/-- Two buffers in one memory. -/
structure AL (w wr : World) (p q : Nat) (s : List (BitVec 8)) (base : Int) (F : Bf) (f : Int → BitVec 8) (S : Nat → Prop) (Q : List Pc) (G : Bf) (g : Int → BitVec 8) (T : Nat → Prop) (R : List Pc) : Prop where
  b1 : Buf wr p F f S
  b2 : Buf wr q G g T
  i1 : AnyI s base F f Q
  i2 : AnyI s base G g R
  s1 : ∀ x, S x → w.heap.size ≤ x ∧ x < wr.heap.size
  s2 : ∀ x, T x → w.heap.size ≤ x ∧ x < wr.heap.size
  ds : ∀ x, S x → ¬ T x
  bel : Below w.heap.size w wr
section
variable {w wr w' : World} {p q : Nat} {s : List (BitVec 8)} {base : Int} {F F' : Bf} {f f' : Int → BitVec 8} {S S' : Nat → Prop} {Q Q' : List Pc} {G G' : Bf} {g g' : Int → BitVec 8} {T T' : Nat → Prop} {R R' : List Pc}
theorem AL.kept (h : AL w wr p q s base F f S Q G g T R) (hb : Below wr.heap.size wr w') : AL w w' p q s base F f S Q G g T R :=
  ⟨h.b1.kept hb, h.b2.kept hb, h.i1, h.i2, fun x hx => ⟨(h.s1 x hx).1, Nat.lt_of_lt_of_le (h.s1 x hx).2 hb.size⟩, fun x hx => ⟨(h.s2 x hx).1, Nat.lt_of_lt_of_le (h.s2 x hx).2 hb.size⟩, h.ds, h.bel.trans (hb.mono h.bel.size)⟩
theorem AL.turn1 (h : AL w wr p q s base F f S Q G g T R) (hB : Buf w' p F' f' S') (hf : Fr S wr w') (hS : ∀ x, S' x → S x ∨ wr.heap.size ≤ x) (hi : AnyI s base F' f' Q') : AL w w' p q s base F' f' (fun x => S' x ∧ x < w'.heap.size) Q' G g T R := by
  refine ⟨hB.tight, h.b2.apart hf (fun k hk e => h.ds k e hk), hi, h.i2, fun x hx => ⟨?_, hx.2⟩, fun x hx => ⟨(h.s2 x hx).1, Nat.lt_of_lt_of_le (h.s2 x hx).2 hf.size⟩, fun x hx ht => ?_, h.bel.trans (hf.below (fun x hx => (h.s1 x hx).1) h.bel.size)⟩
  · rcases hS x hx.1 with e | e
    · exact (h.s1 x e).1
    · exact Nat.le_trans h.bel.size e
  · rcases hS x hx.1 with e | e
    · exact h.ds x e ht
    · have := (h.s2 x ht).2; omega
theorem AL.turn2 (h : AL w wr p q s base F f S Q G g T R) (hB : Buf w' q G' g' T') (hf : Fr T wr w') (hT : ∀ x, T' x → T x ∨ wr.heap.size ≤ x) (hi : AnyI s base G' g' R') : AL w w' p q s base F f S Q G' g' (fun x => T' x ∧ x < w'.heap.size) R' := by
  refine ⟨h.b1.apart hf (fun k hk e => h.ds k hk e), hB.tight, h.i1, hi, fun x hx => ⟨(h.s1 x hx).1, Nat.lt_of_lt_of_le (h.s1 x hx).2 hf.size⟩, fun x hx => ⟨?_, hx.2⟩, fun x hx ht => ?_, h.bel.trans (hf.below (fun x hx => (h.s2 x hx).1) h.bel.size)⟩
  · rcases hT x hx.1 with e | e
    · exact (h.s2 x e).1
    · exact Nat.le_trans h.bel.size e
  · rcases hT x ht.1 with e | e
    · exact h.ds x hx e
    · have := (h.s1 x hx).2; omega
end
end Go.Proofs.Ytimiokbnhneggab
namespace Go.Proofs.Ytimiokbnhneggab
open Go.RowKit Go.Maps Go.Sort
set_option maxRecDepth 100000

theorem bytes_low {w w3 wr : World} {a : Option Addr} {d : List (BitVec 8)} (h : BytesAt w3 a d) {B : Nat} (hlt : d.length ≠ 0 → ∀ g o, a = some ⟨g, o, none⟩ → g < B) (h1 : Below B w w3) (h2 : Below B w wr) : BytesAt wr a d := fun k hk => by
  obtain ⟨g, o, e, c⟩ := h k hk
  refine ⟨g, o, e, ?_⟩
  have hg := hlt (by omega) g o e
  rw [h2.cell (p := ⟨g, o + k, none⟩) hg, ← h1.cell (p := ⟨g, o + k, none⟩) hg]
  exact c
theorem any_zero {s : List (BitVec 8)} {N : Nat} (base : Int) (hN : s.length = N) : AnyI s base (Bf.zero base ((N : Int) + 1) 64) (fun _ => 0#8) [] :=
  ⟨⟨Nat.zero_le _, rfl, by simp [Bf.zero], fun y hy => by obtain ⟨r, hr, _⟩ := hy; simp [Bf.zero] at hr, rfl, fun e => by cases e⟩, by simp [Bf.zero, hN], rfl, Nat.le_refl _, fun x => ⟨fun hy => by obtain ⟨r, hr, _⟩ := hy; simp [Bf.zero] at hr, fun ⟨o, ho, _⟩ => by cases ho⟩⟩
theorem take_snoc (P : List Pc) (i : Nat) (h : i < P.length) : P.take (i + 1) = P.take i ++ [P[i]] := by rw [List.take_add_one, List.getElem?_eq_getElem h]; rfl
/-- What is done with one piece at one buffer. -/
theorem take82 (F : Bf) (off : Int) : F.refuses off ((0 : Nat) : Int) = 82 := by unfold Bf.refuses; rw [if_pos (by simp)]
set_option maxHeartbeats 40000000 in
theorem anyorder_any {w : World} {a : Option Addr} {cap : Nat} {s : List (BitVec 8)} (hB : BytesAt w a s) (N : Nat) (hN : s.length = N) (hc : N ≤ cap) (hcm : cap ≤ maxLen) (hN2 : N ≤ 140737488351232) (hab : N ≠ 0 → ∀ g o, a = some ⟨g, o, none⟩ → g < w.heap.size) (x0 fv : Int) (hx : 0 ≤ x0) {ap : Option Addr} {capp : Nat} (P : List Pc) (hP : PcsAt w ap P) (M : Nat) (hM : P.length = M) (hM2 : M ≤ 140737488351232) :
    Calls Try.prog 3 #[.slice a N cap, .int .u64 x0, .slice ap M capp, .int .i64 fv] w fun e w' => e = .returned (.bool true) ∧ Below w.heap.size w w' := by
  have hNi : (N : Int) ≤ 140737488351232 := by omega
  by_cases hbig : (1073741824 : Int) ≤ N
  · have hAl := alive_any w
    clear hB hP hab
    go_enter Try.func3, Try.ntmps3
    go_wp2_with (go_at_call 5; refine hAl.mono ?_; rintro e w1 ⟨rfl, hb1⟩; have HB1 := hid hb1; clear hb1)
    go_ret
    exact ⟨rfl, HB1.out⟩
  · obtain ⟨base, hbase⟩ : ∃ b, x0 % 4611686018427387905 = b := ⟨_, rfl⟩
    have hb0 : 0 ≤ base := by omega
    have hb1 : base ≤ 4611686018427387904 := by omega
    have hBa := based_any w x0 hx
    rw [hbase] at hBa
    have HN1 := hid (bnew_ok w hb0 hb1 (room := (N : Int) + 1) (by omega) (by omega) (gaps := 64) (by omega) (by omega) (fun _ => 0#8))
    have HNW : Hid (∀ W, Calls Try.prog 7 #[.int .u64 base, .int .i64 ((N : Int) + 1), .int .i64 64] W fun e w' => ∃ p b, e = .returned (.tuple #[.pointer (some ⟨p, 0, none⟩), .int .i64 0]) ∧ BufAt w' p (.slice none 0 0) b 0 (.map []) (Bf.zero base ((N : Int) + 1) 64) (fun _ => 0#8) ∧ Below W.heap.size W w' ∧ ∀ k, Foot p (.slice none 0 0) b (.map []) k → W.heap.size ≤ k) := fun W => bnew_ok W hb0 hb1 (by omega) (by omega) (by omega) (by omega) (fun _ => 0#8)
    obtain ⟨n, hn, hnM, hn60⟩ : ∃ n : Nat, min (M : Int) 60 = n ∧ n ≤ M ∧ n ≤ 60 := ⟨min M 60, by omega, by omega, by omega⟩
    have HB := hid hB
    have HP := hid hP
    have HN := hid hN
    have HM := hid hM
    have HAB := hid hab
    have hMi : (M : Int) ≤ 140737488351232 := by omega
    clear hB hP hN hM hab hbase
    go_enter Try.func3, Try.ntmps3
    go_upto_region 9 with (first
      | (go_at_call 6; refine hBa.mono ?_; rintro e w1 ⟨rfl, rfl⟩)
      | (go_at_call 7; refine HN1.out.mono ?_; clear HN1; rintro e w2 ⟨p, b, rfl, hBu, hbu, hfo⟩; have HX2 := hid (And.intro hBu (And.intro hbu hfo)); have HN2 := hid (HNW.out w2); clear hBu hbu hfo)
      | (go_at_call 7; refine HN2.out.mono ?_; clear HN2; rintro e w3 ⟨q, b', rfl, hBu, hbu, hfo⟩; have HX3 := hid (And.intro hBu (And.intro hbu hfo)); clear hBu hbu hfo))
    have HI0 : Hid (AL w1 w3 p q s base (Bf.zero base ((N : Int) + 1) 64) (fun _ => 0#8) (fun x => Foot p (.slice none 0 0) b (.map []) x) [] (Bf.zero base ((N : Int) + 1) 64) (fun _ => 0#8) (fun x => Foot q (.slice none 0 0) b' (.map []) x) []) :=
      ⟨Buf.kept ⟨_, _, _, _, HX2.out.1, fun _ h => h⟩ HX3.out.2.1, ⟨_, _, _, _, HX3.out.1, fun _ h => h⟩, any_zero base HN.out, any_zero base HN.out, fun x hx => ⟨HX2.out.2.2 x hx, Nat.lt_of_lt_of_le (HX2.out.1.foot_lt hx) HX3.out.2.1.size⟩, fun x hx => ⟨Nat.le_trans HX2.out.2.1.size (HX3.out.2.2 x hx), HX3.out.1.foot_lt hx⟩, fun x hx ht => (by have h1 := HX2.out.1.foot_lt hx; have h2 := HX3.out.2.2 x ht; omega), HX2.out.2.1.trans (HX3.out.2.1.mono HX2.out.2.1.size)⟩
    clear HX2 HX3 HNW hBa
    obtain ⟨f0, hf0⟩ : ∃ f0 : Nat, (IntKind.u64.wrap fv % (n : Int)).toNat = f0 := ⟨_, rfl⟩
    have hwv := wrap_u64_nn fv
    have HF0 : Hid (f0 < n ∨ n = 0) := by
      show _ ∨ _
      by_cases h : n = 0
      · exact .inr h
      · left
        have h1 := Int.emod_nonneg (IntKind.u64.wrap fv) (show (n : Int) ≠ 0 by omega)
        have h2 := Int.emod_lt_of_pos (IntKind.u64.wrap fv) (show 0 < (n : Int) by omega)
        omega
    have HF1 : Hid (n ≠ 0 → IntKind.u64.wrap fv % (n : Int) = f0) := fun h => by
      have h1 := Int.emod_nonneg (IntKind.u64.wrap fv) (show (n : Int) ≠ 0 by omega)
      omega
    have HCT : Hid (∀ W, Below w1.heap.size w1 W → ∀ (x y z : Int) (fi : Bool) (fr ln : Nat), cutF x N = fr → cutL x y N = ln → Calls Try.prog 8 #[.slice a N cap, .agg #[.int .i64 x, .int .i64 y, .bool fi, .int .i64 z]] W fun e w' => ∃ aj, e = .returned (.tuple #[.int .i64 fr, .slice aj ln (cap - fr)]) ∧ (∀ wx, Below w1.heap.size w1 wx → BytesAt wx aj ((s.drop fr).take ln)) ∧ (ln ≠ 0 → ∀ g o, aj = some ⟨g, o, none⟩ → g < w1.heap.size) ∧ Below W.heap.size W w') := fun W hW x y z fi fr ln hfr hln => by
      have hfl := (cutL_le x y N).1
      refine (cut_any (HB.out.kept hW) N HN.out hc hcm (by omega) x y z fi).mono ?_
      rintro e w' ⟨aj, rfl, hbj, haj, hb⟩
      rw [hfr, hln] at *
      have hlow : ln ≠ 0 → ∀ g o, aj = some ⟨g, o, none⟩ → g < w1.heap.size := fun hz g o e => by
        obtain ⟨o', e'⟩ := haj g o e
        exact HAB.out (by omega) g o' e'
      exact ⟨aj, rfl, fun wx hwx => bytes_low hbj (fun hz g o e => hlow (by have := HN.out; simp at hz; omega) g o e) (hW.trans (hb.mono hW.size)) hwx, hlow, hb⟩
    clear hf0 hwv
    go_wp2_with fail
    go_loopw [14] (fun s14 wr => ∃ (i : Nat) (F : Bf) (f : Int → BitVec 8) (S : Nat → Prop) (G : Bf) (g : Int → BitVec 8) (T : Nat → Prop), i ≤ n ∧ s14 = .int .i64 i ∧ AL w1 wr p q s base F f S (P.take i) G g T (turnedL P n f0 i)) (fun s _ => n - (intOf s).toNat)
    case atStart => exact ⟨0, _, _, _, _, _, _, Nat.zero_le _, rfl, HI0.out⟩
    case round =>
      obtain ⟨i, F, f, S, G, g, T, hi, rfl, hI⟩ := hrel
      have HI := hid hI
      clear hI HI0
      by_cases hlt : i < n
      · obtain ⟨kk, hkk⟩ : ∃ kk, (f0 + i) % n = kk := ⟨_, rfl⟩
        have hkn : kk < n := by rw [← hkk]; exact Nat.mod_lt _ (by omega)
        have hPi : i < P.length := by rw [HM.out]; omega
        have hPk : kk < P.length := by rw [HM.out]; omega
        have HPI := hid (take_snoc P i hPi)
        have HPK : Hid (turnedL P n f0 (i + 1) = turnedL P n f0 i ++ [P[kk]]) := by show _ = _; rw [turned_next, hkk]; simp [List.getD, hPk]
        obtain ⟨gq, oq, rfl, _⟩ := HP.out i hPi
        have HQ : Hid (∀ W, Below w1.heap.size w1 W → (∀ j v, P[i].cells[j]? = some v → W.cell? ⟨gq, oq + i * 4 + j, none⟩ = some v) ∧ (∀ j v, P[kk].cells[j]? = some v → W.cell? ⟨gq, oq + kk * 4 + j, none⟩ = some v)) := fun W hW => by
          obtain ⟨g1, o1, e1, c1⟩ := (HP.out.kept hW) i hPi
          obtain ⟨g2, o2, e2, c2⟩ := (HP.out.kept hW) kk hPk
          cases e1
          cases e2
          exact ⟨c1, c2⟩
        have hz1 := HF1.out (by omega)
        have hz2 : ((f0 : Int) + i) % (n : Int) = kk := by rw [← hkk]; push_cast; rfl
        have hz1' : (IntKind.u64.wrap fv).tmod (n : Int) = f0 := by rw [Int.tmod_eq_emod_of_nonneg (wrap_u64_nn fv).1]; exact hz1
        have hz2' : ((f0 : Int) + i).tmod (n : Int) = kk := by rw [Int.tmod_eq_emod_of_nonneg (by omega)]; exact hz2
        have hz3 : ¬ (n : Int) = 0 := by omega
        have hf6 : (f0 : Int) < n := by rcases HF0.out with h | h <;> omega
        have hki : (i : Int) < (n : Int) := by omega
        have hkM : (kk : Int) < (M : Int) := by omega
        have hiM : (i : Int) < (M : Int) := by omega
        have hn6 : (n : Int) ≤ 60 := by omega
        generalize P[i] = pc at *
        generalize P[kk] = pd at *
        obtain ⟨px, py, pf, pn⟩ := pc
        obtain ⟨dx, dy, df, dn⟩ := pd
        obtain ⟨fr1, hfr1⟩ : ∃ fr, cutF px N = fr := ⟨_, rfl⟩
        obtain ⟨ln1, hln1⟩ : ∃ ln, cutL px py N = ln := ⟨_, rfl⟩
        obtain ⟨fr2, hfr2⟩ : ∃ fr, cutF dx N = fr := ⟨_, rfl⟩
        obtain ⟨ln2, hln2⟩ : ∃ ln, cutL dx dy N = ln := ⟨_, rfl⟩
        have hfl1 : fr1 + ln1 ≤ N := by have := (cutL_le px py N).1; omega
        have hfl2 : fr2 + ln2 ≤ N := by have := (cutL_le dx dy N).1; omega
        have HFL1 := hid (And.intro hfr1 hln1)
        have HFL2 := hid (And.intro hfr2 hln2)
        have HC1 := hid (HCT.out wr HI.out.bel px py pn pf fr1 ln1 hfr1 hln1)
        have q0 : wr.cell? ⟨gq, oq + i * 4, none⟩ = some (.int .i64 px) := (HQ.out wr HI.out.bel).1 0 _ rfl
        have q1 := (HQ.out wr HI.out.bel).1 1 _ rfl
        have q2 := (HQ.out wr HI.out.bel).1 2 _ rfl
        have q3 := (HQ.out wr HI.out.bel).1 3 _ rfl
        simp only at q1 q2 q3
        clear hfr1 hln1 hfr2 hln2 hkk
        go_upto_if 111 with (first
          | (go_at_call 8; refine HC1.out.mono ?_; clear HC1; rintro e w4 ⟨aj, rfl, hd1, hl1, hb4⟩; have HD1 := hid (And.intro hd1 hl1); have HI4 := hid (HI.out.kept hb4); have HC2 := hid (HCT.out w4 HI4.out.bel dx dy dn df fr2 ln2 HFL2.out.1 HFL2.out.2); have r0 : w4.cell? ⟨gq, oq + kk * 4, none⟩ = some (.int .i64 dx) := (HQ.out w4 HI4.out.bel).2 0 _ rfl; have r1 := (HQ.out w4 HI4.out.bel).2 1 _ rfl; have r2 := (HQ.out w4 HI4.out.bel).2 2 _ rfl; have r3 := (HQ.out w4 HI4.out.bel).2 3 _ rfl; simp only at r1 r2 r3; clear hd1 hl1 hb4)
          | (go_at_call 8; refine HC2.out.mono ?_; clear HC2; rintro e w5 ⟨ak, rfl, hd2, hl2, hb5⟩; have HD2 := hid (And.intro hd2 hl2); have HI5 := hid (HI4.out.kept hb5); have u2 := (HQ.out w5 HI5.out.bel).1 2 _ rfl; simp only at u2; clear hd2 hl2 hb5))
        go_cut [20, 21] from 72 to 164 (fun _ _ wc => ∃ (F' : Bf) (f' : Int → BitVec 8) (S' : Nat → Prop), AL w1 wc p q s base F' f' S' (P.take (i + 1)) G g T (turnedL P n f0 i))
        case first =>
          have okF := HI5.out.b1.ok
          cases pf with
          | true =>
            as_aux_lemma =>
              have HFN : Hid (Calls Try.prog 9 #[.pointer (some ⟨p, 0, none⟩), .int .u64 (base + N)] w5 fun e w' => e = .returned (.int .i64 (F.finE (base + N))) ∧ ∃ S', AL w1 w' p q s base (F.endAt (base + N)) f S' (P.take (i + 1)) G g T (turnedL P n f0 i)) := by
                have hfi := HI5.out.i1.fin okF (o := ⟨px, py, true, pn⟩) rfl
                rw [HN.out, ← HPI.out] at hfi
                refine (finB_any HI5.out.b1 (base + N) (by omega)).mono ?_
                rintro e w' ⟨rfl, r1, r2⟩
                exact ⟨rfl, _, HI5.out.turn1 r1 r2 (fun x hx => .inl hx) hfi⟩
              clear okF
              go_wp2_with (go_at_call 9; refine HFN.out.mono ?_; rintro e w8 ⟨rfl, S8, hL8⟩; have HL8 := hid hL8; clear hL8)
              go_meet
              exact ⟨_, _, _, HL8.out⟩
          | false =>
            as_aux_lemma =>
              obtain ⟨t1, t2⟩ := HI5.out.i1.take okF (o := ⟨px, py, false, pn⟩) rfl (by simp; omega) (fr := fr1) (ln := ln1) (by rw [HN.out]; exact HFL1.out.1) (by rw [HN.out]; exact HFL1.out.2)
              rw [← HPI.out] at t1
              have HTK : Hid (Calls Try.prog 10 #[.pointer (some ⟨p, 0, none⟩), .int .u64 (base + fr1), .slice aj ln1 (cap - fr1)] w5 fun e w' => e = .returned (.tuple #[.int .i64 (F.tkn (base + fr1) ln1), .int .i64 (F.refuses (base + fr1) ln1)]) ∧ ∃ F' f' S', AL w1 w' p q s base F' f' S' (P.take (i + 1)) G g T (turnedL P n f0 i)) := by
                refine (take_any2 HI5.out.b1 (off := base + fr1) (by omega) (by omega) (d := (s.drop fr1).take ln1) (cap := cap - fr1) (by simp; omega) (by omega) (HD1.out.1 _ HI5.out.bel) ln1 (by have := HN.out; simp; omega) (fun hne g o e hs => ?_)).mono ?_
                · have h5 := HD1.out.2 hne g o e
                  have h6 := (HI5.out.s1 g hs).1
                  omega
                · rintro e w' ⟨rfl, S5, r1, r2, r3⟩
                  exact ⟨rfl, _, _, _, HI5.out.turn1 r1 r2 r3 t1⟩
              clear t1 okF
              by_cases hz : ln1 = 0
              · subst hz
                rw [take82] at HTK
                generalize F.tkn (base + fr1) ((0 : Nat) : Int) = tn at *
                clear t2
                go_wp2_with (go_at_call 10; refine HTK.out.mono ?_; rintro e w8 ⟨rfl, F8, f8, S8, hL8⟩; have HL8 := hid hL8; clear hL8)
                go_meet
                exact ⟨_, _, _, HL8.out⟩
              · rw [t2 hz] at HTK
                generalize F.tkn (base + fr1) ln1 = tn at *
                have hp : (0 : Int) < ln1 := by omega
                clear t2
                go_wp2_with (go_at_call 10; refine HTK.out.mono ?_; rintro e w8 ⟨rfl, F8, f8, S8, hL8⟩; have HL8 := hid hL8; clear hL8)
                go_meet
                exact ⟨_, _, _, HL8.out⟩
        case rest =>
        obtain ⟨F', f', S', hI6⟩ := hcut
        have HI7 := hid hI6
        have r2c := (HQ.out wc hI6.bel).2 2 _ rfl
        simp only at r2c
        clear hI6 HI5 HI4 HI HD1 HPI HFL1 q0 q1 q2 q3 r0 r1 r2 r3 u2
        go_upto_if 140 with fail
        have okF := HI7.out.b2.ok
        cases df with
        | true =>
          as_aux_lemma =>
            have HFN : Hid (Calls Try.prog 9 #[.pointer (some ⟨q, 0, none⟩), .int .u64 (base + N)] wc fun e w' => e = .returned (.int .i64 (G.finE (base + N))) ∧ ∃ S8, AL w1 w' p q s base F' f' S' (P.take (i + 1)) (G.endAt (base + N)) g S8 (turnedL P n f0 (i + 1))) := by
              have hfi := HI7.out.i2.fin okF (o := ⟨dx, dy, true, dn⟩) rfl
              rw [HN.out, ← HPK.out] at hfi
              refine (finB_any HI7.out.b2 (base + N) (by omega)).mono ?_
              rintro e w' ⟨rfl, r1, r2⟩
              exact ⟨rfl, _, HI7.out.turn2 r1 r2 (fun x hx => .inl hx) hfi⟩
            clear okF
            go_wp2_with (go_at_call 9; refine HFN.out.mono ?_; rintro e w8 ⟨rfl, S8, hL8⟩; have HL8 := hid hL8; clear hL8)
            go_roundw
            case rel => exact ⟨i + 1, _, _, _, _, _, _, hlt, by go_num, HL8.out⟩
            case measure => simp [intOf]; omega
        | false =>
          as_aux_lemma =>
            obtain ⟨t1, t2⟩ := HI7.out.i2.take okF (o := ⟨dx, dy, false, dn⟩) rfl (by unfold turnedL; simp; omega) (fr := fr2) (ln := ln2) (by rw [HN.out]; exact HFL2.out.1) (by rw [HN.out]; exact HFL2.out.2)
            rw [← HPK.out] at t1
            have HTK : Hid (Calls Try.prog 10 #[.pointer (some ⟨q, 0, none⟩), .int .u64 (base + fr2), .slice ak ln2 (cap - fr2)] wc fun e w' => e = .returned (.tuple #[.int .i64 (G.tkn (base + fr2) ln2), .int .i64 (G.refuses (base + fr2) ln2)]) ∧ ∃ G8 g8 S8, AL w1 w' p q s base F' f' S' (P.take (i + 1)) G8 g8 S8 (turnedL P n f0 (i + 1))) := by
              refine (take_any2 HI7.out.b2 (off := base + fr2) (by omega) (by omega) (d := (s.drop fr2).take ln2) (cap := cap - fr2) (by simp; omega) (by omega) (HD2.out.1 _ HI7.out.bel) ln2 (by have := HN.out; simp; omega) (fun hne g o e hs => ?_)).mono ?_
              · have h5 := HD2.out.2 hne g o e
                have h6 := (HI7.out.s2 g hs).1
                omega
              · rintro e w' ⟨rfl, S5, r1, r2, r3⟩
                exact ⟨rfl, _, _, _, HI7.out.turn2 r1 r2 r3 t1⟩
            clear t1 okF
            by_cases hz : ln2 = 0
            · subst hz
              rw [take82] at HTK
              generalize G.tkn (base + fr2) ((0 : Nat) : Int) = tn at *
              clear t2
              go_wp2_with (go_at_call 10; refine HTK.out.mono ?_; rintro e w8 ⟨rfl, F8, f8, S8, hL8⟩; have HL8 := hid hL8; clear hL8)
              go_roundw
              case rel => exact ⟨i + 1, _, _, _, _, _, _, hlt, by go_num, HL8.out⟩
              case measure => simp [intOf]; omega
            · rw [t2 hz] at HTK
              generalize G.tkn (base + fr2) ln2 = tn at *
              have hp : (0 : Int) < ln2 := by omega
              clear t2
              go_wp2_with (go_at_call 10; refine HTK.out.mono ?_; rintro e w8 ⟨rfl, F8, f8, S8, hL8⟩; have HL8 := hid hL8; clear hL8)
              go_roundw
              case rel => exact ⟨i + 1, _, _, _, _, _, _, hlt, by go_num, HL8.out⟩
              case measure => simp [intOf]; omega
      · obtain rfl : i = n := by omega
        have hki : ¬ (i : Int) < (i : Int) := by omega
        obtain ⟨m1, m2, m3, m4, m5, m6, m7, m8⟩ := HI.out.i1.same HI.out.i2 HI.out.b1.ok HI.out.b2.ok (fun o => turned_mem (by rw [HM.out]; omega) HF0.out o)
        rw [HN.out] at m7 m8
        have HSS : Hid (∀ W p F f S, Buf W p F f S → Calls Try.prog 11 #[.pointer (some ⟨p, 0, none⟩)] W fun e w' => ∃ gg, e = .returned (.agg #[.int .u64 F.base, .int .i64 F.room, .int .i64 F.gaps, .int .u64 F.read, .int .u64 F.gap, .slice (some ⟨gg, 0, none⟩) F.L.length F.L.length, .int .u64 F.fin, .bool F.ends]) ∧ w'.heap[gg]? = some (.cells (flat F.L).toArray 44 (0, 0)) ∧ Below W.heap.size W w') := fun W p F f S hB => by
          obtain ⟨v', b', hR⟩ := hB.r
          refine (state_any hR).mono ?_
          rintro e w' ⟨sv, rfl, ⟨gg, rfl, hgg1, hgg2⟩, hb4⟩
          exact ⟨gg, rfl, hgg2, hb4⟩
        have HNX : Hid (∀ W p F f S, Buf W p F f S → Calls Try.prog 12 #[.pointer (some ⟨p, 0, none⟩)] W fun e w' => e = .returned (.int .u64 F.next) ∧ Below W.heap.size W w') := fun W p F f S hB => by obtain ⟨v', b', hR⟩ := hB.r; exact next_any hR
        have HA1 := hid (HSS.out wr p F f S HI.out.b1)
        have HA2 : Hid (∀ W, AL w1 W p q s base F f S (P.take i) G g T (turnedL P i f0 i) → Calls Try.prog 11 #[.pointer (some ⟨q, 0, none⟩)] W fun e w' => ∃ gg, e = .returned (.agg #[.int .u64 G.base, .int .i64 G.room, .int .i64 G.gaps, .int .u64 F.read, .int .u64 F.gap, .slice (some ⟨gg, 0, none⟩) F.L.length F.L.length, .int .u64 F.fin, .bool F.ends]) ∧ w'.heap[gg]? = some (.cells (flat F.L).toArray 44 (0, 0)) ∧ Below W.heap.size W w') := fun W hA => by
          have := HSS.out W q G g T hA.b2
          rw [← m1, ← m2, ← m3, ← m4, ← m5] at this
          exact this
        have HM6 := hid m6
        have HM7 := hid m7
        have HM8 := hid m8
        have HOK := hid HI.out.b1.ok
        have hg0 := gap_edge HI.out.b1.ok
        have hr0 : 0 ≤ F.read := by have := HI.out.b1.ok.rd; have := HI.out.b1.ok.b0; omega
        have hge : F.gap ≤ 9223372036854775807 := by have := HI.out.b1.ok.rm2; have := HI.out.b1.ok.b1; have := HI.out.b1.ok.r1; have h9 := (gap_edge HI.out.b1.ok).2.1; omega
        obtain ⟨hg1, hg2, _⟩ := hg0
        clear m1 m2 m3 m4 m5 m6 m7 m8 HCT HP
        go_upto_region 26 with (go_at_call 11; refine HA1.out.mono ?_; clear HA1; rintro e w4 ⟨g1, rfl, hgg, hb4⟩; have HG1 := hid hgg; have HI4 := hid (HI.out.kept hb4); clear hgg hb4)
        refine wp_world fun wa HW => ?_
        have HT1 : Hid (Row wa w4.heap.size [.int .u64 F.base, .int .i64 F.room, .int .i64 F.gaps, .int .u64 F.read, .int .u64 F.gap, .slice (some ⟨g1, 0, none⟩) F.L.length F.L.length, .int .u64 F.fin, .bool F.ends] 40) := by show Row _ _ _ _; rw [HW.out]; exact Row.new' _ _ _ _ _ rfl rfl
        have HBa : Hid (Below w4.heap.size w4 wa) := by show Below _ _ _; rw [HW.out]; exact (Below.refl _ _).alloc (Nat.le_refl _) _
        have HIa := hid (HI4.out.kept HBa.out)
        have HG1a : Hid (wa.heap[g1]? = some (.cells (flat F.L).toArray 44 (0, 0))) := (HBa.out.block g1 (Array.getElem?_eq_some_iff.1 HG1.out).1).trans HG1.out
        have HTB : Hid (¬ S w4.heap.size ∧ ¬ T w4.heap.size) := ⟨fun e => Nat.lt_irrefl _ (HI4.out.s1 _ e).2, fun e => Nat.lt_irrefl _ (HI4.out.s2 _ e).2⟩
        obtain ⟨tb, htb⟩ : ∃ tb, tb = w4.heap.size := ⟨_, rfl⟩
        rw [← htb] at HT1 HTB ⊢
        clear HW htb HG1 HI4 HBa HI
        have HA3 := hid (HA2.out wa HIa.out)
        clear HA2
        go_upto_region 27 with (go_at_call 11; refine HA3.out.mono ?_; clear HA3; rintro e w5 ⟨g2, rfl, hgg, hb5⟩; have HG2 := hid hgg; have HB5 := hid hb5; clear hgg hb5)
        refine wp_world fun wb HW => ?_
        have HT2 : Hid (Row wb w5.heap.size [.int .u64 G.base, .int .i64 G.room, .int .i64 G.gaps, .int .u64 F.read, .int .u64 F.gap, .slice (some ⟨g2, 0, none⟩) F.L.length F.L.length, .int .u64 F.fin, .bool F.ends] 40) := by show Row _ _ _ _; rw [HW.out]; exact Row.new' _ _ _ _ _ rfl rfl
        have HBb : Hid (Below w5.heap.size w5 wb) := by show Below _ _ _; rw [HW.out]; exact (Below.refl _ _).alloc (Nat.le_refl _) _
        have HBc : Hid (Below wa.heap.size wa wb) := HB5.out.trans (HBb.out.mono HB5.out.size)
        have HIb := hid (HIa.out.kept HBc.out)
        have HT1b := hid (HT1.out.kept HBc.out HT1.out.lt)
        have HG1b : Hid (wb.heap[g1]? = some (.cells (flat F.L).toArray 44 (0, 0))) := (HBc.out.block g1 (Array.getElem?_eq_some_iff.1 HG1a.out).1).trans HG1a.out
        have HG2b : Hid (wb.heap[g2]? = some (.cells (flat F.L).toArray 44 (0, 0))) := (HBb.out.block g2 (Array.getElem?_eq_some_iff.1 HG2.out).1).trans HG2.out
        obtain ⟨tc, htc⟩ : ∃ tc, tc = w5.heap.size := ⟨_, rfl⟩
        rw [← htc] at HT2 ⊢
        clear HW htc HG2 HB5 HBb HBc HIa HT1 HG1a
        have nl0 : F.L.length ≤ 65 := HOK.out.len
        obtain ⟨nl, hnl⟩ : ∃ nl, F.L.length = nl := ⟨_, rfl⟩
        rw [hnl] at HT1b HT2 nl0
        have HNL := hid hnl
        have x3 := HT1b.out.cell 3 _ rfl
        have x4 := HT1b.out.cell 4 _ rfl
        have x5 := HT1b.out.cell 5 _ rfl
        have x6 := HT1b.out.cell 6 _ rfl
        have x7 := HT1b.out.cell 7 _ rfl
        have y3 := HT2.out.cell 3 _ rfl
        have y4 := HT2.out.cell 4 _ rfl
        have y5 := HT2.out.cell 5 _ rfl
        have y6 := HT2.out.cell 6 _ rfl
        have y7 := HT2.out.cell 7 _ rfl
        have NA1 := hid (HNX.out wb p F f S HIb.out.b1)
        clear hnl
        go_wp2_with (first
          | (go_at_call 12; refine NA1.out.mono ?_; clear NA1; rintro e w6 ⟨rfl, hb6⟩; have HB6 := hid hb6; have NA2 := hid (HNX.out w6 q G g T (HIb.out.b2.kept hb6)); rw [← HM6.out] at NA2; clear hb6)
          | (go_at_call 12; refine NA2.out.mono ?_; clear NA2; rintro e w7 ⟨rfl, hb7⟩; have HB7 := hid (HB6.out.trans (hb7.mono HB6.out.size)); clear hb7))
        have HI7 := hid (HIb.out.kept HB7.out)
        have HT1c := hid (HT1b.out.kept HB7.out HT1b.out.lt)
        have HT2c := hid (HT2.out.kept HB7.out HT2.out.lt)
        have HG1c : Hid (w7.heap[g1]? = some (.cells (flat F.L).toArray 44 (0, 0))) := (HB7.out.block g1 (Array.getElem?_eq_some_iff.1 HG1b.out).1).trans HG1b.out
        have HG2c : Hid (w7.heap[g2]? = some (.cells (flat F.L).toArray 44 (0, 0))) := (HB7.out.block g2 (Array.getElem?_eq_some_iff.1 HG2b.out).1).trans HG2b.out
        clear HB6 HB7 HIb HT1b HT2 HG1b HG2b x3 x4 x5 x6 x7 y3 y4 y5 y6 y7
        go_loopw [26] (fun s26 wr => ∃ j : Nat, j ≤ nl ∧ s26 = .int .i64 j ∧ Below w7.heap.size w7 wr) (fun s _ => nl - (intOf s).toNat)
        case atStart => exact ⟨0, Nat.zero_le _, rfl, Below.refl _ _⟩
        case round =>
          obtain ⟨j, hj, rfl, hb⟩ := hrel
          have HBr := hid hb
          have x5 := (HT1c.out.kept hb HT1c.out.lt).cell 5 _ rfl
          have y5 := (HT2c.out.kept hb HT2c.out.lt).cell 5 _ rfl
          by_cases hjl : j < nl
          · have hjL : j < F.L.length := by rw [HNL.out]; exact hjl
            have h1 : wr.heap[g1]? = some (.cells (flat F.L).toArray 44 (0, 0)) := (hb.block g1 (Array.getElem?_eq_some_iff.1 HG1c.out).1).trans HG1c.out
            have h2 : wr.heap[g2]? = some (.cells (flat F.L).toArray 44 (0, 0)) := (hb.block g2 (Array.getElem?_eq_some_iff.1 HG2c.out).1).trans HG2c.out
            have c0 : wr.cell? ⟨g1, j * 2, none⟩ = some (.int .u64 F.L[j].1) := by rw [cell_of_row wr g1 _ _ _ _ h1, ← (flat_get F.L j hjL).1]; simp
            have c1 : wr.cell? ⟨g1, j * 2 + 1, none⟩ = some (.int .u64 F.L[j].2) := by rw [cell_of_row wr g1 _ _ _ _ h1, ← (flat_get F.L j hjL).2]; simp
            have d0 : wr.cell? ⟨g2, j * 2, none⟩ = some (.int .u64 F.L[j].1) := by rw [cell_of_row wr g2 _ _ _ _ h2, ← (flat_get F.L j hjL).1]; simp
            have d1 : wr.cell? ⟨g2, j * 2 + 1, none⟩ = some (.int .u64 F.L[j].2) := by rw [cell_of_row wr g2 _ _ _ _ h2, ← (flat_get F.L j hjL).2]; simp
            generalize F.L[j].1 = rl at *
            generalize F.L[j].2 = rh at *
            have hji : (j : Int) < nl := by omega
            clear h1 h2 hb
            go_upto_region 32 with fail
            go_quiet (fail)
            go_wp2_with fail
            go_roundw
            case rel => exact ⟨j + 1, hjl, by go_num, below_drewN HBr.out nq⟩
            case measure => simp [intOf]; omega
          · obtain rfl : j = nl := by omega
            have hji : ¬ (j : Int) < (j : Int) := by omega
            have HI9 := hid (HI7.out.kept hb)
            have HT9 := hid (HT1c.out.kept hb HT1c.out.lt)
            clear hb HI7 HT1c HT2c HG1c HG2c
            obtain ⟨D, hD⟩ : ∃ D, F.rdB f N = D := ⟨_, rfl⟩
            obtain ⟨L, hL⟩ : ∃ L, D.length = L := ⟨_, rfl⟩
            have HRM : Hid (F.read + F.room ≤ F.base + 2305843009213693952 ∧ G.read + G.room ≤ G.base + 2305843009213693952) := by
              show _ ∧ _
              have h1 := HI9.out.i1; have h2 := HI9.out.i2
              have := h1.st.rd; have := h1.st.bs; have := h1.rm; have := h2.st.rd; have := h2.st.bs; have := h2.rm; have := HN.out
              omega
            have RA1 := hid (read_any HI9.out.b1 (N : Int) (by omega) (by omega) HRM.out.1)
            have RA2 : Hid (∀ w8, Fr S wr w8 → Calls Try.prog 13 #[.pointer (some ⟨q, 0, none⟩), .int .i64 (N : Int)] w8 fun e w' => ∃ a en, e = .returned (.tuple #[.slice a L L, .bool en, .int .i64 0]) ∧ BytesAt w' a D ∧ Fr T w8 w') := fun w8 hf => by
              refine (read_any (HI9.out.b2.apart hf (fun k hk e => HI9.out.ds k e hk)) (N : Int) (by omega) (by omega) HRM.out.2).mono ?_
              rintro e w' ⟨a, rfl, hb, _, _, _, hf', _⟩
              rw [← HM7.out, hD, hL] at *
              exact ⟨a, _, rfl, hb, hf'⟩
            rw [hD, hL] at RA1
            have hLg : (L : Int) = F.gap - F.read := by have := HM8.out; rw [hD, hL] at this; exact this
            have hsub : IntKind.u64.wrap (F.gap - F.read) = (L : Int) := by rw [IntKind.wrap_u64, hLg]; omega
            have hL2 : (L : Int) ≤ 1073741824 := by have := HI9.out.i1.rm; have := HN.out; omega
            have HAV := hid (fun W => alive_any W)
            have HDL := hid hL
            clear hD hL hLg
            have HCV : Hid (∀ w8 w9 wz ax ay, BytesAt w8 ax D → (∀ g o, ax = some ⟨g, o, none⟩ → wr.heap.size ≤ g ∧ o = 0 ∧ Row w8 g (bcells D) 5) → Fr S wr w8 → BytesAt w9 ay D → Fr T w8 w9 → Below w9.heap.size w9 wz →
                (convert 22 9 (.slice ax L L)).run Try.prog wz = .ok (.string (strOf D)) wz ∧ (convert 22 9 (.slice ay L L)).run Try.prog wz = .ok (.string (strOf D)) wz ∧ wz.cell? ⟨tb, 3, none⟩ = some (.int .u64 F.read) ∧ wz.cell? ⟨tb, 4, none⟩ = some (.int .u64 F.gap) ∧ Below w1.heap.size w1 wz) := fun w8 w9 wz ax ay h1 h2 h3 h4 h5 h6 => by
              have hr := ((h5.row (h3.row HT9.out HTB.out.1) HTB.out.2).kept h6 (h5.row (h3.row HT9.out HTB.out.1) HTB.out.2).lt)
              have k8 : Below w1.heap.size w1 w8 := HI9.out.bel.trans (h3.below (fun x hx => (HI9.out.s1 x hx).1) HI9.out.bel.size)
              have k9 : Below w1.heap.size w1 w9 := k8.trans (h5.below (fun x hx => (HI9.out.s2 x hx).1) k8.size)
              refine ⟨convert_any (fun k hk => ?_) HDL.out, convert_any (h4.kept h6) HDL.out, hr.cell 3 _ rfl, hr.cell 4 _ rfl, k9.trans (h6.mono k9.size)⟩
              obtain ⟨g, o, e, c⟩ := h1 k hk
              obtain ⟨e1, e2, e3⟩ := h2 g o e
              exact ⟨g, o, e, cell_kept h6 (h5.cell c (fun e' => by have := (HI9.out.s2 g e').2; omega))⟩
            go_wp2_with (first
              | (go_at_call 13; refine RA1.out.mono ?_; clear RA1; rintro e w8 ⟨ax, rfl, hb8, hn8, S8, hB8, hf8, _, _⟩; have HR2 := hid (RA2.out w8 hf8); have HY8 := hid (And.intro hb8 (And.intro hn8 hf8)); clear hb8 hn8 hB8 hf8)
              | (go_at_call 13; refine HR2.out.mono ?_; clear HR2; rintro e w9 ⟨ay, en9, rfl, hb9, hf9⟩; have HY9 := hid (And.intro hb9 hf9); clear hb9 hf9)
              | (go_at_call 5; refine (HAV.out _).mono ?_; rintro e wz ⟨rfl, hbz⟩; have HZZ := hid (HCV.out w8 w9 wz ax ay HY8.out.1 HY8.out.2.1 HY8.out.2.2 HY9.out.1 HY9.out.2 hbz); have v1 := HZZ.out.1; have v2 := HZZ.out.2.1; have v3 := HZZ.out.2.2.1; have v4 := HZZ.out.2.2.2.1; clear hbz))
            go_ret
            exact ⟨by first | rfl | simp, HZZ.out.2.2.2.2⟩
end Go.Proofs.Ytimiokbnhneggab
