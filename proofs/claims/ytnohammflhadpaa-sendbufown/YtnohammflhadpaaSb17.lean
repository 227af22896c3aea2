import Derived.Test.YtnohammflhadpaaSb15
import Derived.Laws.AppendOwn
namespace Go.Proofs.Ytnohammflhadpaa
open Go.RowKit Go.Maps Go.Sort
set_option maxRecDepth 100000

/-- An own row of bytes. -/
abbrev OwnBy (w : World) (base : Nat) (v : Value) (l : List (BitVec 8)) : Prop := w.ownsRow base 5 1 v l.length (bcells l)
theorem ownBy_shape {w : World} {base : Nat} {v : Value} {l : List (BitVec 8)} (h : OwnBy w base v l) : ∃ a cap, v = .slice a l.length cap ∧ BytesAt w a l ∧ l.length ≤ cap ∧ cap ≤ maxLen ∧ ∀ g o, a = some ⟨g, o, none⟩ → base ≤ g ∧ o = 0 ∧ ∃ cur, w.heap[g]? = some (.cells cur 5 (0, 0)) := by
  obtain ⟨hl, ⟨rfl, hn⟩ | ⟨g, cap, cur, rfl, hb, hg, hnc, hcm, hcs, htk⟩⟩ := h
  · exact ⟨none, 0, by rw [hn], fun k hk => by omega, by omega, Nat.zero_le _, fun g o e => by cases e⟩
  · refine ⟨some ⟨g, 0, none⟩, cap, rfl, fun k hk => ⟨g, 0, rfl, ?_⟩, hnc, hcm, fun g' o e => by cases e; exact ⟨hb, rfl, cur, hg⟩⟩
    have h1 := bcells_get hk
    rw [Nat.zero_add, cell_of_row w g _ _ _ _ hg, ← h1, ← htk, List.getElem?_take, if_pos (by omega), Array.getElem?_toList]
/-- 'append' of bytes to a row that the call made. -/
theorem wpAppendB {ops : Array Oper} {rest : List Oper} {o : Oper} {a : Act} {w : World} {Q : Exit → Act → World → Prop} (s x : Operand) (hgd : o.guard = none) (ho : o.op = .call { callee := .builtin .append, args := #[s, x], argTypes := #[25, 25] })
    {base k : Nat} {v : Value} {old : List (BitVec 8)} (hs : a.eval s = v) (hown : w.ownsRow base 5 1 v k (bcells old)) (hbase : base ≤ w.heap.size) (hfr : ∀ g, v.ownBlock = some g → base ≤ g)
    {ad : Addr} {n c : Nat} {bs : List (BitVec 8)} (hx : a.eval x = .slice (some ad) n c) (hn : bs.length = n) (hB : BytesAt w (some ad) bs) (hl : k + n ≤ 140737488355328)
    (h : ∀ w' v', Hid (w'.ownsRow base 5 1 v' (k + n) (bcells (old ++ bs))) → Hid (Below base w w') → wpList Try.prog ops Q rest (a.put o.dst v') w') : wpList Try.prog ops Q (o :: rest) a w := by
  obtain ⟨i, h1, h2, h3, h4⟩ := info5
  subst hn
  refine wpList_append_own w hgd s x 25 ho base 5 i (.int .u8 0) 1 1 Try.underlying25 h1 h2 h3 h4 rfl (by decide) v k (bcells old) hs hown ad bs.length c (bcells bs) hx (by rw [bcells_len]; omega) ?_ (bcells_one _) (by unfold maxLen; omega) (by omega) hbase ?_
  · intro j u hv
    have hj : j < bs.length := by
      have := (List.getElem?_eq_some_iff.1 hv).1
      rwa [bcells_len] at this
    obtain ⟨g2, o2, e2, c2⟩ := hB j hj
    cases e2
    rw [bcells_get hj] at hv
    rw [Addr.add_mid, c2]
    exact hv
  · intro v' w' hown' hgrow _
    refine h w' v' ?_ ?_
    · show World.ownsRow _ _ _ _ _ _ _
      rw [show bcells (old ++ bs) = bcells old ++ bcells bs by simp [bcells]]; exact hown'
    · exact ((Below.refl _ _).grown hgrow hbase hfr)
/-- What a copy of bytes is. -/
def CloneAns (w : World) (bs : List (BitVec 8)) (n : Nat) (e : Ending) (w' : World) : Prop := ∃ a' c', e = .returned (.slice a' n c') ∧ BytesAt w' a' bs ∧ n ≤ c' ∧ c' ≤ maxLen ∧ (∀ g o, a' = some ⟨g, o, none⟩ → w.heap.size ≤ g ∧ o = 0 ∧ ∃ cur, w'.heap[g]? = some (.cells cur 5 (0, 0))) ∧ Below w.heap.size w w'
set_option maxHeartbeats 1000000 in
theorem clone_any {w : World} {a : Option Addr} {n cap : Nat} {bs : List (BitVec 8)} (hB : BytesAt w a bs) (hn : bs.length = n) (hl : n ≤ 1048576) (hz : a = none → cap = 0) :
    Calls Try.prog 38 #[.slice a n cap] w (CloneAns w bs n) := by
  cases a with
  | none =>
    obtain rfl : bs = [] := by
      cases bs with
      | nil => rfl
      | cons b l => obtain ⟨g, o, e, _⟩ := hB 0 (by simp); cases e
    obtain rfl : n = 0 := hn.symm
    obtain rfl : cap = 0 := hz rfl
    clear hB hn
    have HP : Hid (CloneAns w [] 0 (.returned (.slice none 0 0)) w) := ⟨none, 0, rfl, fun k hk => absurd hk (Nat.not_lt_zero _), Nat.le_refl _, Nat.zero_le _, fun g o e => (by cases e), Below.refl _ _⟩
    have he : ∀ w : World, (binOp .eql 25 (.slice none 0 0) (.slice none 0 0)).run Try.prog w = .ok (.bool true) w := fun _ => rfl
    go_enter Try.func38, Try.ntmps38
    go_wp2
    go_ret
    exact HP.out
  | some ad =>
    have HB := hid hB
    have HN := hid hn
    have HL := hid hl
    have he : ∀ w : World, (binOp .eql 25 (.slice (some ad) n cap) (.slice none 0 0)).run Try.prog w = .ok (.bool false) w := fun _ => rfl
    clear hB hn hl hz
    go_enter Try.func38, Try.ntmps38
    go_wp2_with (at_builtin; refine wpAppendB (.tmp 5) (.tmp 6) rfl rfl (base := w.heap.size) (v := .slice (some ⟨w.heap.size, 0, none⟩) 0 0) (old := []) rfl ⟨rfl, .inr ⟨w.heap.size, 0, #[], rfl, Nat.le_refl _, heap_alloc_last w _, Nat.le_refl _, by decide, rfl, rfl⟩⟩ (by simp) (fun g e => by simp [Value.ownBlock] at e; omega) rfl HN.out (HB.out.kept ((Below.refl _ _).alloc (Nat.le_refl _) _)) (by have := HL.out; omega) ?_; intro w' v' hO hb)
    go_ret
    have hb2 : Below w.heap.size w w' := ((Below.refl _ _).alloc (Nat.le_refl _) _).trans hb.out
    have hO2 := hO.out
    rw [List.nil_append, Nat.zero_add, ← HN.out] at hO2
    obtain ⟨a', c', rfl, hA, h1, h2, h3⟩ := ownBy_shape hO2
    exact ⟨a', c', by rw [HN.out]; rfl, hA, by rw [← HN.out]; exact h1, h2, h3, hb2⟩
/-- What Bytes answers. -/
theorem bytes_none {w : World} {p : Nat} {F : Sb} {a : Option Addr} {cap : Nat} (h : SbR w p F a cap) (off : Int) (hn : ∀ k, ¬ F.find off k) : Calls Try.prog 27 #[.pointer (some ⟨p, 0, none⟩), .int .u64 off] w fun e w' => e = .returned (.slice none 0 0) ∧ Below w.heap.size w w' := by
  have HA := hid (at_none h off hn)
  clear h hn
  go_enter Try.func27, Try.ntmps27
  go_wp2_with (go_at_call 40; refine HA.out.mono ?_; rintro e w1 ⟨rfl, hb1⟩; have HB1 := hid hb1; clear hb1)
  go_ret
  exact ⟨rfl, HB1.out⟩
set_option maxHeartbeats 1000000 in
theorem bytes_some {w : World} {p : Nat} {F : Sb} {g o cap : Nat} (h : SbR w p F (some ⟨g, o, none⟩) cap) {off : Int} {k : Nat} (hk : F.find off k) (hkl : k < F.L.length) (hz : F.L[k].a = none → F.L[k].cap = 0) :
    Calls Try.prog 27 #[.pointer (some ⟨p, 0, none⟩), .int .u64 off] w (fun e w' => ∃ w1, Below w.heap.size w w1 ∧ CloneAns w1 F.L[k].bs F.L[k].bs.length e w') := by
  have HA := hid (at_some h hk)
  obtain ⟨g', o', e', hcl⟩ := h.ck k hkl
  cases e'
  have q1 := hcl 1 _ rfl
  have HC : Hid (∀ w1, Below w.heap.size w w1 → Calls Try.prog 38 #[.slice F.L[k].a F.L[k].bs.length F.L[k].cap] w1 (CloneAns w1 F.L[k].bs F.L[k].bs.length)) := fun w1 hb => clone_any ((h.by_ _ (List.getElem_mem hkl)).kept hb) rfl (by have h1 := h.ok.ck _ (List.getElem_mem hkl); have h2 := h1.cap; have h3 := h1.capm; omega) hz
  have HQ : Hid (∀ w1, Below w.heap.size w w1 → w1.cell? ⟨g, o + k * 6 + 1, none⟩ = some (.slice F.L[k].a F.L[k].bs.length F.L[k].cap)) := fun w1 hb => cell_kept hb q1
  generalize F.L[k] = c at *
  clear h hk hcl q1
  go_enter Try.func27, Try.ntmps27
  go_wp2_with (first | (go_at_call 40; refine HA.out.mono ?_; rintro e w1 ⟨rfl, hb1⟩; have HB1 := hid hb1; have r1 := HQ.out w1 hb1; clear hb1) | (go_at_call 38; refine (HC.out w1 HB1.out).mono ?_; rintro e w2 ⟨a', c', rfl, hA⟩; have HX := hid hA; clear hA))
  go_ret
  exact ⟨w1, HB1.out, a', c', rfl, HX.out⟩
end Go.Proofs.Ytnohammflhadpaa
namespace Go.Proofs.Ytnohammflhadpaa
open Go.RowKit Go.Maps Go.Sort
set_option maxRecDepth 100000

/-- A chunk of bytes, new. -/
def dataCk (e : Int) (bs : List (BitVec 8)) (a : Option Addr) : Ck := ⟨e, bs, a, bs.length, false, 0, false, false⟩
/-- A chunk more. -/
def Sb.more (F : Sb) (bs : List (BitVec 8)) (a : Option Addr) : Sb := { F with end_ := F.end_ + bs.length, L := F.L ++ [dataCk F.end_ bs a] }
theorem Sb.more_ok {F : Sb} (h : F.Ok) (hc : F.closed = false) {bs : List (BitVec 8)} (hb : bs ≠ []) (hm : (bs.length : Int) ≤ F.mss) (hf : (bs.length : Int) ≤ F.room - (F.end_ - min F.acked F.end_)) (he : F.end_ + bs.length ≤ 4611686018427387904) (ha : F.acked ≤ F.end_) (hn : F.L.length ≤ 65536) (a : Option Addr) : (F.more bs a).Ok := by
  have hl : 0 < bs.length := List.length_pos_iff.2 hb
  have hlt : ∀ c ∈ F.L, c.off < F.end_ := fun c hm => by
    have h1 := h.ck c hm
    have h2 := h1.few (h.cl hc c hm)
    have h3 := h1.ol
    have h4 := List.length_pos_iff.2 h2
    omega
  have m1 := h.m1
  refine ⟨h.r0, h.r1, h.m0, h.m1, h.a0, ?_, h.h0, ?_, he, ?_, h.g0, h.g1, fun c hm => ?_, ?_, ?_, fun e c hm => ?_, fun c hm => ?_, fun i hi => ?_, fun c hm => ?_⟩
  · show F.acked ≤ F.end_ + bs.length + 1; omega
  · show F.high ≤ F.end_ + bs.length; have := h.h1; omega
  · show F.end_ + bs.length - F.room ≤ F.acked; omega
  · rcases List.mem_append.1 hm with e | e
    · have := h.ck c e
      refine ⟨this.o0, ?_, this.on0, this.on1, this.cap, this.capm, fun e2 => ?_, this.few⟩
      · show c.off + c.bs.length ≤ F.end_ + bs.length; have := this.ol; omega
      · rw [h.cl hc c e] at e2; cases e2
    · simp at e
      subst e
      have h1 := h.h0
      have h2 := h.h1
      exact ⟨by show 0 ≤ F.end_; omega, by show F.end_ + (bs.length : Int) ≤ F.end_ + bs.length; omega, Int.le_refl 0, by show (0 : Int) ≤ 255; omega, Nat.le_refl _, by show bs.length ≤ 65536; omega, (fun e => by cases e), fun _ => hb⟩
  · show (F.L ++ [dataCk F.end_ bs a]).Pairwise _
    rw [List.pairwise_append]
    exact ⟨h.so, List.pairwise_singleton _ _, fun c hm d hd => by simp at hd; subst hd; exact hlt c hm⟩
  · show (F.L ++ [dataCk F.end_ bs a]).length ≤ 65537
    simp; omega
  · rcases List.mem_append.1 hm with e | e
    · exact h.cl hc c e
    · simp at e; subst e; rfl
  · rcases List.mem_append.1 hm with e | e
    · exact h.ak c e
    · simp at e
      subst e
      show F.acked < (if false = true then F.end_ + 1 else F.end_ + (bs.length : Int))
      rw [if_neg (by simp)]; omega
  · have hi' : i + 1 < (F.L ++ [dataCk F.end_ bs a]).length := hi
    simp at hi'
    show ((F.L ++ [dataCk F.end_ bs a])[i]'(by simp; omega)).off + (((F.L ++ [dataCk F.end_ bs a])[i]'(by simp; omega)).bs.length : Int) = ((F.L ++ [dataCk F.end_ bs a])[i + 1]'(by simp; omega)).off
    rw [List.getElem_append_left (show i < F.L.length by omega)]
    by_cases e : i + 1 < F.L.length
    · rw [List.getElem_append_left e]; exact h.ch i e
    · rw [List.getElem_append_right (by omega)]
      have hla := h.la F.L[i] (by rw [List.getLast?_eq_getElem?, show F.L.length - 1 = i by omega]; exact List.getElem?_eq_getElem (by omega))
      simp only [List.getElem_singleton]
      exact hla
  · have hm' : (F.L ++ [dataCk F.end_ bs a]).getLast? = some c := hm
    simp at hm'
    subst hm'
    rfl
/-- Behind an append of a chunk and whatever was stored in the buffer itself. -/
theorem SbW.pushed {w w' w2 : World} {p : Nat} {F G : Sb} {a a' : Option Addr} {cap cap' : Nat} (h : SbW w p F a cap) {c : Ck} (hL : G.L = F.L ++ [c]) (hrow : Row w2 p (G.cells (.slice a' (F.L.length + 1) cap')) 74) (hfr2 : Fr (fun x => x = p) w' w2) (ok : G.Ok)
    (h1 : CksAt w' a' (F.L ++ [c])) (h2 : CkOwn w' a' cap') (h3 : F.L.length + 1 ≤ cap') (h4 : cap' ≤ maxLen) (h5 : (a' = a ∧ cap' = cap ∧ ∃ g o, a = some ⟨g, o, none⟩ ∧ Fr (fun x => x = g) w w') ∨ (a' = some ⟨w.heap.size, 0, none⟩ ∧ Below w.heap.size w w'))
    (hby : BytesAt w c.a c.bs) (hap : ∀ g o, c.a = some ⟨g, o, none⟩ → g ≠ p ∧ g < w.heap.size ∧ ∀ g' o', a = some ⟨g', o', none⟩ → g ≠ g') (hlt : ∀ d ∈ F.L, ∀ g o, d.a = some ⟨g, o, none⟩ → g < w.heap.size) :
    SbW w2 p G a' cap' ∧ Fr (fun x => x = p ∨ ∃ o, a = some ⟨x, o, none⟩) w w2 := by
  have hp1 : p < w.heap.size := h.r.row.lt
  obtain ⟨g1, o1, arr1, e1, hg1, hs1⟩ : ∃ g o arr, a' = some ⟨g, o, none⟩ ∧ w'.heap[g]? = some (.cells arr 78 (0, 0)) ∧ o + cap' * 6 = arr.size := by
    rcases h2 with e | e
    · omega
    · exact e
  subst e1
  have hS : Fr (fun x => x ≠ p ∧ ∃ o, a = some ⟨x, o, none⟩) w w' ∧ (g1 = w.heap.size ∨ ∃ o, a = some ⟨g1, o, none⟩) ∧ g1 ≠ p := by
    rcases h5 with ⟨e, ec, g, o, ea, hf⟩ | ⟨e, hb⟩
    · rw [ea] at e
      cases e
      have hne : g1 ≠ p := fun e2 => by
        subst e2
        rcases h.own with e3 | ⟨g', o', arr, e3, hg, _⟩
        · omega
        · rw [ea] at e3
          cases e3
          have := h.r.row.at_.symm.trans hg
          simp at this
      exact ⟨hf.wider (fun x hx => by subst hx; exact ⟨hne, _, ea⟩), .inr ⟨_, ea⟩, hne⟩
    · cases e
      exact ⟨Fr.of_below hb (Nat.le_refl _), .inl rfl, by omega⟩
  obtain ⟨hf, hg, hgp⟩ := hS
  have hbytes : ∀ d ∈ F.L ++ [c], BytesAt w d.a d.bs ∧ ∀ g o, d.a = some ⟨g, o, none⟩ → g ≠ p ∧ g < w.heap.size ∧ ∀ g' o', a = some ⟨g', o', none⟩ → g ≠ g' := fun d hd => by
    rcases List.mem_append.1 hd with e | e
    · exact ⟨h.r.by_ d e, fun g o ed => ⟨(h.ap d e g o ed).1, hlt d e g o ed, (h.ap d e g o ed).2⟩⟩
    · simp at e
      subst e
      exact ⟨hby, hap⟩
  refine ⟨⟨⟨?_, ?_, ?_, ok, by rw [hL]; simp; exact h3, h4⟩, ?_, ?_⟩, ?_⟩
  · rw [show G.L.length = F.L.length + 1 by rw [hL]; simp]
    exact hrow
  · rw [hL]
    intro k hk
    obtain ⟨g, o, e, q⟩ := h1 k hk
    cases e
    exact ⟨_, _, rfl, fun j v hv => hfr2.cell (q j v hv) hgp⟩
  · rw [hL]
    intro d hd i hi
    obtain ⟨g, o, e, q⟩ := (hbytes d hd).1 i hi
    obtain ⟨n1, n2, n3⟩ := (hbytes d hd).2 g o e
    exact ⟨g, o, e, hfr2.cell (hf.cell q (fun e2 => by obtain ⟨_, o2, e3⟩ := e2; exact n3 _ _ e3 rfl)) n1⟩
  · exact .inr ⟨g1, o1, arr1, rfl, (hfr2.block g1 (Array.getElem?_eq_some_iff.1 hg1).1 hgp).trans hg1, hs1⟩
  · rw [hL]
    intro d hd g o e
    obtain ⟨n1, n2, n3⟩ := (hbytes d hd).2 g o e
    refine ⟨n1, fun g' o' e' => ?_⟩
    cases e'
    rcases hg with e2 | ⟨o2, e2⟩
    · omega
    · exact n3 _ _ e2
  · exact (hf.wider (fun x hx => .inr hx.2)).trans hfr2 (fun x hx => .inl (.inl hx))
/-- The chunks that so many rounds cut. -/
def cutCks (m g : Nat) : Nat → Nat → Int → List (BitVec 8) → List Ck
  | 0, _, _, _ => []
  | t + 1, o, e, bs => if bs = [] then [] else dataCk e (bs.take m) (some ⟨g, o, none⟩) :: cutCks m g t (o + (bs.take m).length) (e + (bs.take m).length) (bs.drop m)
theorem cutCks_snoc (m g : Nat) : ∀ (t o : Nat) (e : Int) (bs : List (BitVec 8)), t * m < bs.length → cutCks m g (t + 1) o e bs = cutCks m g t o e bs ++ [dataCk (e + (t * m : Nat)) ((bs.drop (t * m)).take m) (some ⟨g, o + t * m, none⟩)]
  | 0, o, e, bs, h => by
    have hb : bs ≠ [] := fun e => by subst e; simp at h
    simp [cutCks, hb]
  | t + 1, o, e, bs, h => by
    have hb : bs ≠ [] := fun e => by subst e; simp at h
    have hm : m ≤ bs.length := by rw [Nat.succ_mul] at h; omega
    have htl : (bs.take m).length = m := by simp; omega
    have ih := cutCks_snoc m g t (o + m) (e + (m : Int)) (bs.drop m) (by rw [Nat.succ_mul] at h; simp; omega)
    show (if bs = [] then [] else _) = (if bs = [] then [] else _) ++ _
    rw [if_neg hb, if_neg hb, htl, ih]
    simp only [List.cons_append, List.drop_drop]
    congr 3
    have e1 : m + t * m = (t + 1) * m := by rw [Nat.succ_mul]; omega
    rw [e1]
    congr 1
    · have : ((t + 1) * m : Nat) = t * m + m := Nat.succ_mul t m
      rw [this]; push_cast; omega
    · congr 2
      rw [Nat.succ_mul]; omega
end Go.Proofs.Ytnohammflhadpaa
