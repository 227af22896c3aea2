import Derived.Test.YtnohammflhadpaaSb33
namespace Go.Proofs.Ytnohammflhadpaa
open Go.RowKit Go.Maps Go.Sort
set_option maxRecDepth 100000

theorem cutCks_fresh (m g : Nat) : ∀ (t o : Nat) (e : Int) (bs : List (BitVec 8)) (c : Ck), c ∈ cutCks m g t o e bs → c.on = 0 ∧ c.out = false ∧ c.held = false ∧ c.fin = false
  | 0, _, _, _, _, h => by simp [cutCks] at h
  | t + 1, o, e, bs, c, h => by
    rw [cutCks] at h
    split at h
    · simp at h
    · rcases List.mem_cons.1 h with rfl | h
      · exact ⟨rfl, rfl, rfl, rfl⟩
      · exact cutCks_fresh m g t _ _ _ c h
/-- What the first Write of a stream leaves. -/
structure Fresh (F : Sb) (b e : Int) (n : Nat) : Prop where
  cl : F.closed = false
  ac : F.acked = b
  en : F.end_ = b + n
  hi : F.high = b
  ed : F.edge = e
  fr : ∀ c ∈ F.L, c.on = 0 ∧ c.out = false ∧ c.held = false ∧ c.fin = false
  ne : F.L = [] → n = 0
theorem write_fresh {w : World} {p : Nat} {b r m0 e_ : Int} {S : Nat → Prop} (h : Bf w p (Sb.mk1 b r m0 e_) S) {ax : Option Addr} {bs : List (BitVec 8)} (hB : BytesAt w ax bs) (N capx : Nat) (hN : bs.length = N) (hcx : N ≤ capx) (hNm : N ≤ 140737488355328) (hz : ax = none → capx = 0) :
    Calls Try.prog 11 #[.pointer (some ⟨p, 0, none⟩), .slice ax N capx] w fun ee w' => ∃ (n : Nat) (F : Sb), ee = .returned (.int .i64 n) ∧ Bf w' p F (grew S w w') ∧ Fr S w w' ∧ Fresh F b e_ n := by
  have h' := h
  obtain ⟨n, hn⟩ : ∃ n, (Sb.mk1 b r m0 e_).takes N = n := ⟨_, rfl⟩
  obtain ⟨a, cap, h⟩ := h
  have hnN : n ≤ N := by unfold Sb.takes at hn; omega
  refine (write_yes h.sb rfl (Int.le_refl _) hB N capx hN hcx hNm hz (fun d hd g o e => h.lt g (h.sy d hd g o e)) (fun g o e => h.lt g (h.sa g o e)) n hn).mono ?_
  rintro ee w' ⟨rfl, hA⟩
  rcases hA with ⟨rfl, hb⟩ | ⟨w1, m, g, t, a', cap', hn0, hb1, hm, hg, ht, hC⟩
  · exact ⟨0, _, rfl, (h'.kept hb).wider (fun _ hx => .inl hx) (grew_lt h.lt hb.size), Fr.of_below hb (Nat.le_refl _), ⟨rfl, rfl, by show b = b + ((0 : Nat) : Int); omega, rfl, rfl, fun c hc => by simp [Sb.mk1] at hc, fun _ => rfl⟩⟩
  · have hm0 : 1 ≤ m := by have := h.sb.r.ok.m0; omega
    have hbl : (bs.take n).length = n := by rw [List.length_take]; omega
    have hsz := hb1.size
    have hfs := hC.fr.size
    refine ⟨n, _, rfl, ⟨a', cap', hC.sb, .inl h.sp, fun g' o' e => ?_, fun c hc' g' o' e => ?_, grew_lt h.lt (Nat.le_trans hsz hfs)⟩, ?_, ⟨rfl, rfl, ?_, rfl, rfl, fun c hc => ?_, fun hl => ?_⟩⟩
    · rcases hC.ap g' o' e with ⟨o, e'⟩ | e'
      · exact .inl (h.sa g' o e')
      · refine .inr ⟨by omega, ?_⟩
        rcases hC.sb.own with e2 | ⟨g2, o2, arr, e2, hg2, _⟩
        · have hlc : ((Sb.mk1 b r m0 e_).L ++ cutCks m g t 0 (Sb.mk1 b r m0 e_).end_ (bs.take n)).length ≤ cap' := hC.sb.r.lc
          have hpr := congrArg List.length (cutCks_prs m g hm0 t 0 (Sb.mk1 b r m0 e_).end_ (bs.take n) (by omega))
          rw [hbl, cutA_step hm0 _ hn0, List.length_map, List.length_cons] at hpr
          rw [List.length_append] at hlc
          omega
        · rw [e] at e2
          cases e2
          exact (Array.getElem?_eq_some_iff.1 hg2).1
    · have hc2 : c ∈ [] ++ cutCks m g t 0 b (bs.take n) := hc'
      rw [List.nil_append] at hc2
      obtain ⟨o2, e2⟩ := cutCks_a m g t _ _ _ c hc2
      have hl := hC.lt c hc' g' o' e
      rw [e] at e2
      cases e2
      exact .inr ⟨hg, by omega⟩
    · exact ((Fr.of_below (S := S) hb1 (Nat.le_refl _)).trans hC.fr (fun x hx => by
        rcases hx with rfl | ⟨o, e⟩
        · exact .inl h.sp
        · exact .inl (h.sa x o e)))
    · show b + _ = _
      rw [hbl]
      have : min (t * m) n = n := by omega
      rw [this]
    · have hc2 : c ∈ [] ++ cutCks m g t 0 b (bs.take n) := hc
      rw [List.nil_append] at hc2
      exact cutCks_fresh m g t _ _ _ c hc2
    · have hl2 : [] ++ cutCks m g t 0 b (bs.take n) = [] := hl
      rw [List.nil_append] at hl2
      have hpr := congrArg List.length (cutCks_prs m g hm0 t 0 b (bs.take n) (by omega))
      rw [hbl, cutA_step hm0 _ hn0, hl2] at hpr
      simp at hpr
theorem close_B {w : World} {p : Nat} {F : Sb} {S : Nat → Prop} (h : Bf w p F S) (hc : F.closed = false) (hn : F.L.length ≤ 65536) (ha : F.acked ≤ F.end_) :
    Calls Try.prog 12 #[.pointer (some ⟨p, 0, none⟩)] w fun e w' => e = .returned (.bool true) ∧ Bf w' p F.shut (grew S w w') ∧ Fr S w w' := by
  obtain ⟨a, cap, h⟩ := h
  refine (close_ok h.sb hc hn ha (fun d hd g o e => h.lt g (h.sy d hd g o e))).mono ?_
  rintro e w' ⟨rfl, a', cap', hs, hf, hap⟩
  refine ⟨rfl, ⟨a', cap', hs, .inl h.sp, fun g o e => ?_, fun c hc' g o e => ?_, grew_lt h.lt hf.size⟩, hf.wider (fun x hx => ?_)⟩
  · rcases hap g o e with ⟨o', e'⟩ | e'
    · exact .inl (h.sa g o' e')
    · refine .inr ⟨e', ?_⟩
      rcases hs.own with e2 | ⟨g2, o2, arr, e2, hg2, _⟩
      · have hlc : (F.L ++ [endCk F.end_]).length ≤ cap' := hs.r.lc
        rw [List.length_append, List.length_singleton] at hlc
        omega
      · rw [e] at e2
        cases e2
        exact (Array.getElem?_eq_some_iff.1 hg2).1
  · rcases List.mem_append.1 hc' with h1 | h1
    · exact .inl (h.sy c h1 g o e)
    · simp only [List.mem_singleton] at h1
      rw [h1] at e
      cases e
  · rcases hx with rfl | ⟨o, e⟩
    · exact h.sp
    · exact h.sa _ _ e
theorem sent_X {w : World} {p : Nat} {F : Sb} {S : Nat → Prop} (h : Bf w p F S) (x : Int) {k : Nat} (hk : k < F.L.length) (hz : F.mayOn F.L[k] (bit x) = true) :
    Calls Try.prog 17 #[.pointer (some ⟨p, 0, none⟩), .int .i64 x, .int .u64 F.L[k].off] w fun e w' => e = .returned (.bool true) ∧ Bf w' p (F.sent k F.L[k] (bit x)) (grew S w w') ∧ Fr S w w' := by
  obtain ⟨a, cap, h⟩ := h
  obtain ⟨g, o, rfl⟩ := h.at_ hk
  refine (sent_on h.sb x hk rfl hz).mono ?_
  rintro e w' ⟨rfl, hs, hf⟩
  refine ⟨rfl, ⟨_, cap, hs, .inl h.sp, fun g o e => .inl (h.sa g o e), fun c hc g' o' e => ?_, grew_lt h.lt hf.size⟩, hf.wider (fun y hy => by rcases hy with rfl | rfl; exact h.sa _ _ rfl; exact h.sp)⟩
  obtain ⟨d, hd, e'⟩ := put_a hk (c := F.L[k].go (bit x)) rfl c hc
  exact .inl (h.sy d hd g' o' (e' ▸ e))
theorem ack_X {w : World} {p : Nat} {F : Sb} {S : Nat → Prop} (h : Bf w p F S) {b : Bool} (hb : F.endOut = b) (hF : F.Fin) (v E : Int) (hE0 : 0 ≤ E) (hE1 : E ≤ 18446744073709551615) (hv : v ≤ (if b = true then F.high + 1 else F.high)) :
    Calls Try.prog 18 #[.pointer (some ⟨p, 0, none⟩), .int .u64 v, .int .u64 E] w fun e w' => e = .returned (.bool (decide (F.acked < v) || decide (F.edge < E))) ∧ ∃ n, Bf w' p (F.acks (max F.acked v) (max F.edge E) n) (grew S w w') ∧ Fr S w w' := by
  obtain ⟨a, cap, h⟩ := h
  have he := endOut_any h.sb.r hF
  rw [hb] at he
  refine (ack_yes h.sb he hE0 hE1 hv).mono ?_
  rintro e w' ⟨rfl, n, a', cap', hD⟩
  refine ⟨rfl, n, ⟨a', cap', hD.sb, .inl h.sp, fun g o e => ?_, fun c hc g o e => .inl (h.sy c (List.mem_of_mem_drop hc) g o e), grew_lt h.lt hD.fr.size⟩, hD.fr.wider (fun x hx => ?_)⟩
  · obtain ⟨o', e'⟩ := hD.ap g o e
    exact .inl (h.sa g o' e')
  · rcases hx with rfl | ⟨o, e⟩
    · exact h.sp
    · exact h.sa _ _ e
theorem ack_X_no {w : World} {p : Nat} {F : Sb} {S : Nat → Prop} (h : Bf w p F S) {b : Bool} (hb : F.endOut = b) (hF : F.Fin) (v E : Int) (hv : (if b = true then F.high + 1 else F.high) < v) :
    Calls Try.prog 18 #[.pointer (some ⟨p, 0, none⟩), .int .u64 v, .int .u64 E] w fun e w' => e = .returned (.bool false) ∧ Below w.heap.size w w' := by
  obtain ⟨a, cap, h⟩ := h
  have he := endOut_any h.sb.r hF
  rw [hb] at he
  exact ack_no h.sb.r he E hv
end Go.Proofs.Ytnohammflhadpaa
