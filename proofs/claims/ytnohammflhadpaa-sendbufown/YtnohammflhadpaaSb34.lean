import Derived.Test.YtnohammflhadpaaSb30
namespace Go.Proofs.Ytnohammflhadpaa
open Go.RowKit Go.Maps Go.Sort
set_option maxRecDepth 100000

/-- A closed stream of C chunks and its end, of which the first k have gone out. -/
structure En (F : Sb) (k C : Nat) : Prop where
  ok : F.Ok
  cl : F.closed = true
  ac : F.acked ≤ F.end_
  ed : F.edge = 9223372036854775808
  len : F.L.length = C + 1
  fin : ∀ i (h : i < F.L.length), F.L[i].fin = decide (i = C)
  held : ∀ i (h : i < F.L.length), F.L[i].held = false
  on : ∀ i (h : i < F.L.length), i < k → bits BinOp.and IntKind.u8 F.L[i].on 255 ≠ 0 ∧ F.L[i].out = true ∧ F.L[i].off + F.L[i].bs.length ≤ F.high
  off : ∀ i (h : i < F.L.length), k ≤ i → F.L[i].on = 0 ∧ F.L[i].out = false
  h0 : C = 0 → F.high = F.end_
theorem lowFrom_at (F : Sb) (fr : Int) : ∀ (L : List Ck) (k : Nat) (hk : k < L.length), (∀ i (h : i < L.length), i < k → F.mayGo L[i] = true ∧ L[i].free fr = false) → F.mayGo L[k] = true → L[k].free fr = true → F.lowFrom fr L = some L[k]
  | c :: r, 0, hk, _, h1, h2 => by
    have h1' : F.mayGo c = true := h1
    have h2' : c.free fr = true := h2
    unfold Sb.lowFrom
    rw [if_pos h1', if_pos h2']
    rfl
  | c :: r, k + 1, hk, h0, h1, h2 => by
    obtain ⟨a, b⟩ := h0 0 (by simp) (by omega)
    have a' : F.mayGo c = true := a
    have b' : c.free fr = false := b
    unfold Sb.lowFrom
    rw [if_pos a', if_neg (by rw [b']; decide)]
    exact lowFrom_at F fr r k (by simpa using hk) (fun i h hi => h0 (i + 1) (by simpa using h) (by omega)) h1 h2
section
variable {F : Sb} {k C : Nat}
theorem En.go (h : En F k C) {i : Nat} (hi : i < F.L.length) (hk : i ≤ k) : F.mayGo F.L[i] = true := by
  unfold Sb.mayGo
  have hf := h.fin i hi
  by_cases e : i = C
  · rw [decide_eq_true e] at hf
    rw [if_pos hf]
    unfold Sb.allOut
    rw [List.all_eq_true]
    intro c hc
    obtain ⟨j, hj, rfl⟩ := List.getElem_of_mem hc
    have hfj := h.fin j hj
    by_cases ej : j = C
    · rw [decide_eq_true ej] at hfj
      rw [hfj]
      rfl
    · have := h.len
      rw [(h.on j hj (by omega)).2.1]
      simp
  · rw [decide_eq_false e] at hf
    rw [if_neg (by rw [hf]; decide)]
    refine decide_eq_true ?_
    have h1 := (h.ok.ck _ (List.getElem_mem hi)).ol
    have h2 := h.ok.e1
    unfold Ck.behind
    rw [if_neg (by rw [hf]; decide), h.ed]
    omega
theorem En.low (h : En F k C) (hk : k ≤ C) : ∃ hl : k < F.L.length, F.low 255 = some F.L[k] := by
  have hl : k < F.L.length := by have := h.len; omega
  refine ⟨hl, lowFrom_at F 255 F.L k hl (fun i hi hik => ⟨h.go hi (by omega), ?_⟩) (h.go hl (Nat.le_refl _)) ?_⟩
  · unfold Ck.free
    have := (h.on i hi hik).1
    rw [Bool.and_eq_false_iff]
    right
    simpa using this
  · unfold Ck.free
    rw [h.held k hl, (h.off k hl (Nat.le_refl _)).1]
    decide
theorem bit_or (x : Nat) (hx : x < 8) : bit x ≠ 0 ∧ bits BinOp.and IntKind.u8 0 (bit x) = 0 ∧ bits BinOp.and IntKind.u8 (bits BinOp.or IntKind.u8 0 (bit x)) 255 ≠ 0 := by
  have : x = 0 ∨ x = 1 ∨ x = 2 ∨ x = 3 ∨ x = 4 ∨ x = 5 ∨ x = 6 ∨ x = 7 := by omega
  rcases this with rfl | rfl | rfl | rfl | rfl | rfl | rfl | rfl <;> decide
theorem En.may (h : En F k C) (hl : k < F.L.length) {x : Nat} (hx : x < 8) : F.mayOn F.L[k] (bit x) = true := by
  obtain ⟨h1, h2, _⟩ := bit_or x hx
  unfold Sb.mayOn Ck.free
  rw [h.go hl (Nat.le_refl _), h.held k hl, (h.off k hl (Nat.le_refl _)).1, h2]
  simp [h1]
theorem En.sent (h : En F k C) (hl : k < F.L.length) {x : Nat} (hx : x < 8) (ok : (F.sent k F.L[k] (bit x)).Ok) : En (F.sent k F.L[k] (bit x)) (k + 1) C := by
  obtain ⟨_, _, h3⟩ := bit_or x hx
  have hL : (F.sent k F.L[k] (bit x)).L = F.L.set k (F.L[k].go (bit x)) := rfl
  have hlen : (F.sent k F.L[k] (bit x)).L.length = F.L.length := by rw [hL, List.length_set]
  have hat : ∀ i (hi : i < (F.sent k F.L[k] (bit x)).L.length), (F.sent k F.L[k] (bit x)).L[i] = if k = i then F.L[k].go (bit x) else F.L[i]'(by omega) := fun i hi => by
    show (F.L.set k (F.L[k].go (bit x)))[i]'(by rw [List.length_set]; omega) = _
    rw [List.getElem_set]
  have hhi : (F.sent k F.L[k] (bit x)).high = max F.high (F.L[k].off + F.L[k].bs.length) := rfl
  refine ⟨ok, h.cl, h.ac, h.ed, by rw [hlen]; exact h.len, fun i hi => ?_, fun i hi => ?_, fun i hi hik => ?_, fun i hi hik => ?_, fun hc => ?_⟩
  · rw [hat i hi]
    split
    · rename_i e; subst e; exact h.fin k hl
    · exact h.fin i (by omega)
  · rw [hat i hi]
    split
    · exact h.held k hl
    · exact h.held i (by omega)
  · rw [hat i hi]
    split
    · rename_i e
      subst e
      refine ⟨?_, rfl, ?_⟩
      · show bits BinOp.and IntKind.u8 (bits BinOp.or IntKind.u8 F.L[k].on (bit x)) 255 ≠ 0
        rw [(h.off k hl (Nat.le_refl _)).1]
        exact h3
      · rw [hhi]
        exact Int.le_max_right _ _
    · obtain ⟨a, b, c⟩ := h.on i (by omega) (by omega)
      refine ⟨a, b, ?_⟩
      rw [hhi]
      omega
  · rw [hat i hi]
    split
    · omega
    · exact h.off i (by omega) (by omega)
  · have h1 := h.h0 hc
    have h2 := (h.ok.ck _ (List.getElem_mem hl)).ol
    rw [hhi]
    show _ = F.end_
    omega
/-- Behind the last chunk with bytes all have gone out. -/
theorem En.high (h : En F k C) (hk : C ≤ k) : F.high = F.end_ := by
  by_cases e : C = 0
  · exact h.h0 e
  · have hl : C < F.L.length := by have := h.len; omega
    have h1 := (h.on (C - 1) (by omega) (by omega)).2.2
    have h2 := h.ok.ch (C - 1) (by omega)
    have hfc : F.L[C].fin = true := by rw [h.fin C hl]; exact decide_eq_true rfl
    have h3 := ((h.ok.ck _ (List.getElem_mem hl)).fin hfc).2
    have h4 := h.ok.h1
    have e2 : (F.L[C - 1 + 1]'(by omega)).off = F.L[C].off := by congr 2; omega
    omega
theorem En.off_eq (h : En F k C) {i : Nat} (hi : i < F.L.length) : F.L[i].off = F.end_ ↔ i = C := by
  have hf := h.fin i hi
  have hck := h.ok.ck _ (List.getElem_mem hi)
  constructor
  · intro e
    by_cases hc : i = C
    · exact hc
    · exfalso
      rw [decide_eq_false hc] at hf
      have h1 := hck.few hf
      have h2 := hck.ol
      have h3 : 0 < F.L[i].bs.length := List.length_pos_iff.2 h1
      omega
  · intro e
    rw [decide_eq_true e] at hf
    exact (hck.fin hf).2
theorem En.last (h : En F k C) : ∃ c, F.L.getLast? = some c ∧ c.fin = true ∧ c.out = decide (C < k) := by
  have hl : C < F.L.length := by have := h.len; omega
  refine ⟨F.L[C], ?_, by rw [h.fin C hl]; exact decide_eq_true rfl, ?_⟩
  · rw [List.getLast?_eq_getElem?, h.len, Nat.add_sub_cancel, List.getElem?_eq_getElem hl]
  · by_cases e : C < k
    · rw [(h.on C hl e).2.1, decide_eq_true e]
    · rw [(h.off C hl (by omega)).2, decide_eq_false e]
theorem En.finP (h : En F k C) : F.Fin := fun _ _ => by
  obtain ⟨c, h1, h2, _⟩ := h.last
  exact ⟨c, h1, h2⟩
theorem En.endOut (h : En F k C) : F.endOut = decide (C < k) := by
  obtain ⟨c, h1, _, h3⟩ := h.last
  have hd : F.done = false := by
    unfold Sb.done
    rw [decide_eq_false (by have := h.ac; omega)]
    simp
  unfold Sb.endOut
  rw [h.cl, hd, h1, ← h3]
  simp
end
/-- A stream that was written to once, and closed. -/
theorem en_new {F : Sb} (ok : F.shut.Ok) (hc : F.acked ≤ F.end_) (he : F.edge = 9223372036854775808) (hfr : ∀ c ∈ F.L, c.on = 0 ∧ c.out = false ∧ c.held = false ∧ c.fin = false) (h0 : F.L = [] → F.high = F.end_) : En F.shut 0 F.L.length := by
  have hL : F.shut.L = F.L ++ [endCk F.end_] := rfl
  have hat : ∀ i (hi : i < F.shut.L.length), (i = F.L.length ∧ F.shut.L[i] = endCk F.end_) ∨ (i < F.L.length ∧ F.shut.L[i] ∈ F.L) := fun i hi => by
    have hi' : i < F.L.length + 1 := by rw [hL] at hi; simpa using hi
    by_cases e : i = F.L.length
    · subst e
      left
      refine ⟨rfl, ?_⟩
      show (F.L ++ [endCk F.end_])[F.L.length]'(by simp) = _
      rw [List.getElem_concat_length rfl]
    · right
      refine ⟨by omega, ?_⟩
      show (F.L ++ [endCk F.end_])[i]'(by simp; omega) ∈ _
      rw [List.getElem_append_left (by omega)]
      exact List.getElem_mem _
  refine ⟨ok, rfl, hc, he, by rw [hL]; simp, fun i hi => ?_, fun i hi => ?_, fun i hi h => by omega, fun i hi _ => ?_, fun h => h0 (List.eq_nil_of_length_eq_zero h)⟩
  · rcases hat i hi with ⟨e1, e2⟩ | ⟨e1, e2⟩
    · rw [e2, decide_eq_true e1]; rfl
    · rw [(hfr _ e2).2.2.2, decide_eq_false (by omega)]
  · rcases hat i hi with ⟨e1, e2⟩ | ⟨e1, e2⟩
    · rw [e2]; rfl
    · exact (hfr _ e2).2.2.1
  · rcases hat i hi with ⟨e1, e2⟩ | ⟨e1, e2⟩
    · rw [e2]; exact ⟨rfl, rfl⟩
    · exact ⟨(hfr _ e2).1, (hfr _ e2).2.1⟩
end Go.Proofs.Ytnohammflhadpaa
namespace Go.Proofs.Ytnohammflhadpaa
open Go.RowKit Go.Maps Go.Sort
set_option maxRecDepth 100000

theorem cutCks_fresh (m g : Nat) : ∀ (t o : Nat) (e : Int) (bs : List (BitVec 8)) (c : Ck), c ∈ cutCks m g t o e bs → c.on = 0 ∧ c.out = false ∧ c.held = false ∧ c.fin = false
  | 0, _, _, _, _, h => by simp [cutCks] at h
  | t + 1, o, e, bs, c, h => by
    rw [cutCks] at h
    split at h
    · simp at h
    · rcases List.mem_cons.1 h with rfl | h
      · exact ⟨rfl, rfl, rfl, rfl⟩
      · exact cutCks_fresh m g t _ _ _ c h
/-- What the first Write of a stream leaves. -/
structure Fresh (F : Sb) (b e : Int) (n : Nat) : Prop where
  cl : F.closed = false
  ac : F.acked = b
  en : F.end_ = b + n
  hi : F.high = b
  ed : F.edge = e
  fr : ∀ c ∈ F.L, c.on = 0 ∧ c.out = false ∧ c.held = false ∧ c.fin = false
  ne : F.L = [] → n = 0
theorem write_fresh {w : World} {p : Nat} {b r m0 e_ : Int} {S : Nat → Prop} (h : Bf w p (Sb.mk1 b r m0 e_) S) {ax : Option Addr} {bs : List (BitVec 8)} (hB : BytesAt w ax bs) (N capx : Nat) (hN : bs.length = N) (hcx : N ≤ capx) (hNm : N ≤ 140737488355328) (hz : ax = none → capx = 0) :
    Calls Try.prog 11 #[.pointer (some ⟨p, 0, none⟩), .slice ax N capx] w fun ee w' => ∃ (n : Nat) (F : Sb), ee = .returned (.int .i64 n) ∧ Bf w' p F (grew S w w') ∧ Fr S w w' ∧ Fresh F b e_ n := by
  have h' := h
  obtain ⟨n, hn⟩ : ∃ n, (Sb.mk1 b r m0 e_).takes N = n := ⟨_, rfl⟩
  obtain ⟨a, cap, h⟩ := h
  have hnN : n ≤ N := by unfold Sb.takes at hn; omega
  refine (write_yes h.sb rfl (Int.le_refl _) hB N capx hN hcx hNm hz (fun d hd g o e => h.lt g (h.sy d hd g o e)) (fun g o e => h.lt g (h.sa g o e)) n hn).mono ?_
  rintro ee w' ⟨rfl, hA⟩
  rcases hA with ⟨rfl, hb⟩ | ⟨w1, m, g, t, a', cap', hn0, hb1, hm, hg, ht, hC⟩
  · exact ⟨0, _, rfl, (h'.kept hb).wider (fun _ hx => .inl hx) (grew_lt h.lt hb.size), Fr.of_below hb (Nat.le_refl _), ⟨rfl, rfl, by show b = b + ((0 : Nat) : Int); omega, rfl, rfl, fun c hc => by simp [Sb.mk1] at hc, fun _ => rfl⟩⟩
  · have hm0 : 1 ≤ m := by have := h.sb.r.ok.m0; omega
    have hbl : (bs.take n).length = n := by rw [List.length_take]; omega
    have hsz := hb1.size
    have hfs := hC.fr.size
    refine ⟨n, _, rfl, ⟨a', cap', hC.sb, .inl h.sp, fun g' o' e => ?_, fun c hc' g' o' e => ?_, grew_lt h.lt (Nat.le_trans hsz hfs)⟩, ?_, ⟨rfl, rfl, ?_, rfl, rfl, fun c hc => ?_, fun hl => ?_⟩⟩
    · rcases hC.ap g' o' e with ⟨o, e'⟩ | e'
      · exact .inl (h.sa g' o e')
      · refine .inr ⟨by omega, ?_⟩
        rcases hC.sb.own with e2 | ⟨g2, o2, arr, e2, hg2, _⟩
        · have hlc : ((Sb.mk1 b r m0 e_).L ++ cutCks m g t 0 (Sb.mk1 b r m0 e_).end_ (bs.take n)).length ≤ cap' := hC.sb.r.lc
          have hpr := congrArg List.length (cutCks_prs m g hm0 t 0 (Sb.mk1 b r m0 e_).end_ (bs.take n) (by omega))
          rw [hbl, cutA_step hm0 _ hn0, List.length_map, List.length_cons] at hpr
          rw [List.length_append] at hlc
          omega
        · rw [e] at e2
          cases e2
          exact (Array.getElem?_eq_some_iff.1 hg2).1
    · have hc2 : c ∈ [] ++ cutCks m g t 0 b (bs.take n) := hc'
      rw [List.nil_append] at hc2
      obtain ⟨o2, e2⟩ := cutCks_a m g t _ _ _ c hc2
      have hl := hC.lt c hc' g' o' e
      rw [e] at e2
      cases e2
      exact .inr ⟨hg, by omega⟩
    · exact ((Fr.of_below (S := S) hb1 (Nat.le_refl _)).trans hC.fr (fun x hx => by
        rcases hx with rfl | ⟨o, e⟩
        · exact .inl h.sp
        · exact .inl (h.sa x o e)))
    · show b + _ = _
      rw [hbl]
      have : min (t * m) n = n := by omega
      rw [this]
    · have hc2 : c ∈ [] ++ cutCks m g t 0 b (bs.take n) := hc
      rw [List.nil_append] at hc2
      exact cutCks_fresh m g t _ _ _ c hc2
    · have hl2 : [] ++ cutCks m g t 0 b (bs.take n) = [] := hl
      rw [List.nil_append] at hl2
      have hpr := congrArg List.length (cutCks_prs m g hm0 t 0 b (bs.take n) (by omega))
      rw [hbl, cutA_step hm0 _ hn0, hl2] at hpr
      simp at hpr
theorem close_B {w : World} {p : Nat} {F : Sb} {S : Nat → Prop} (h : Bf w p F S) (hc : F.closed = false) (hn : F.L.length ≤ 65536) (ha : F.acked ≤ F.end_) :
    Calls Try.prog 12 #[.pointer (some ⟨p, 0, none⟩)] w fun e w' => e = .returned (.bool true) ∧ Bf w' p F.shut (grew S w w') ∧ Fr S w w' := by
  obtain ⟨a, cap, h⟩ := h
  refine (close_ok h.sb hc hn ha (fun d hd g o e => h.lt g (h.sy d hd g o e))).mono ?_
  rintro e w' ⟨rfl, a', cap', hs, hf, hap⟩
  refine ⟨rfl, ⟨a', cap', hs, .inl h.sp, fun g o e => ?_, fun c hc' g o e => ?_, grew_lt h.lt hf.size⟩, hf.wider (fun x hx => ?_)⟩
  · rcases hap g o e with ⟨o', e'⟩ | e'
    · exact .inl (h.sa g o' e')
    · refine .inr ⟨e', ?_⟩
      rcases hs.own with e2 | ⟨g2, o2, arr, e2, hg2, _⟩
      · have hlc : (F.L ++ [endCk F.end_]).length ≤ cap' := hs.r.lc
        rw [List.length_append, List.length_singleton] at hlc
        omega
      · rw [e] at e2
        cases e2
        exact (Array.getElem?_eq_some_iff.1 hg2).1
  · rcases List.mem_append.1 hc' with h1 | h1
    · exact .inl (h.sy c h1 g o e)
    · simp only [List.mem_singleton] at h1
      rw [h1] at e
      cases e
  · rcases hx with rfl | ⟨o, e⟩
    · exact h.sp
    · exact h.sa _ _ e
theorem sent_X {w : World} {p : Nat} {F : Sb} {S : Nat → Prop} (h : Bf w p F S) (x : Int) {k : Nat} (hk : k < F.L.length) (hz : F.mayOn F.L[k] (bit x) = true) :
    Calls Try.prog 17 #[.pointer (some ⟨p, 0, none⟩), .int .i64 x, .int .u64 F.L[k].off] w fun e w' => e = .returned (.bool true) ∧ Bf w' p (F.sent k F.L[k] (bit x)) (grew S w w') ∧ Fr S w w' := by
  obtain ⟨a, cap, h⟩ := h
  obtain ⟨g, o, rfl⟩ := h.at_ hk
  refine (sent_on h.sb x hk rfl hz).mono ?_
  rintro e w' ⟨rfl, hs, hf⟩
  refine ⟨rfl, ⟨_, cap, hs, .inl h.sp, fun g o e => .inl (h.sa g o e), fun c hc g' o' e => ?_, grew_lt h.lt hf.size⟩, hf.wider (fun y hy => by rcases hy with rfl | rfl; exact h.sa _ _ rfl; exact h.sp)⟩
  obtain ⟨d, hd, e'⟩ := put_a hk (c := F.L[k].go (bit x)) rfl c hc
  exact .inl (h.sy d hd g' o' (e' ▸ e))
theorem ack_X {w : World} {p : Nat} {F : Sb} {S : Nat → Prop} (h : Bf w p F S) {b : Bool} (hb : F.endOut = b) (hF : F.Fin) (v E : Int) (hE0 : 0 ≤ E) (hE1 : E ≤ 18446744073709551615) (hv : v ≤ (if b = true then F.high + 1 else F.high)) :
    Calls Try.prog 18 #[.pointer (some ⟨p, 0, none⟩), .int .u64 v, .int .u64 E] w fun e w' => e = .returned (.bool (decide (F.acked < v) || decide (F.edge < E))) ∧ ∃ n, Bf w' p (F.acks (max F.acked v) (max F.edge E) n) (grew S w w') ∧ Fr S w w' := by
  obtain ⟨a, cap, h⟩ := h
  have he := endOut_any h.sb.r hF
  rw [hb] at he
  refine (ack_yes h.sb he hE0 hE1 hv).mono ?_
  rintro e w' ⟨rfl, n, a', cap', hD⟩
  refine ⟨rfl, n, ⟨a', cap', hD.sb, .inl h.sp, fun g o e => ?_, fun c hc g o e => .inl (h.sy c (List.mem_of_mem_drop hc) g o e), grew_lt h.lt hD.fr.size⟩, hD.fr.wider (fun x hx => ?_)⟩
  · obtain ⟨o', e'⟩ := hD.ap g o e
    exact .inl (h.sa g o' e')
  · rcases hx with rfl | ⟨o, e⟩
    · exact h.sp
    · exact h.sa _ _ e
theorem ack_X_no {w : World} {p : Nat} {F : Sb} {S : Nat → Prop} (h : Bf w p F S) {b : Bool} (hb : F.endOut = b) (hF : F.Fin) (v E : Int) (hv : (if b = true then F.high + 1 else F.high) < v) :
    Calls Try.prog 18 #[.pointer (some ⟨p, 0, none⟩), .int .u64 v, .int .u64 E] w fun e w' => e = .returned (.bool false) ∧ Below w.heap.size w w' := by
  obtain ⟨a, cap, h⟩ := h
  have he := endOut_any h.sb.r hF
  rw [hb] at he
  exact ack_no h.sb.r he E hv
end Go.Proofs.Ytnohammflhadpaa
