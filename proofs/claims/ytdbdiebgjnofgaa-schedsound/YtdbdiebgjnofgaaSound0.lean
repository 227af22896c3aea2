import Derived.Test.YtdbdiebgjnofgaaRed
import Derived.Test.YtdbdiebgjnofgaaWeighs0
import Derived.Test.YtdbdiebgjnofgaaLawCall
import Derived.Test.YtdbdiebgjnofgaaPatient
import Derived.Test.YtdbdiebgjnofgaaOpen2
namespace Go.Proofs.Ytdbdiebgjnofgaa
open Go.RowKit Go.Maps Go.Sort
set_option maxRecDepth 100000

/-- The best one is no worse than any other one. -/
theorem bst_best (T : Pv → Bool) (M : Pv → Int) (L : List Pv) : ∀ (i : Nat), (0 ≤ bst T M L i → T (pth L (bst T M L i).toNat) = true) ∧ (∀ t, t < i → T (pth L t) = true → 0 ≤ bst T M L i)
  | 0 => ⟨fun h => by simp [bst] at h, fun t ht => absurd ht (Nat.not_lt_zero _)⟩
  | i + 1 => by
    obtain ⟨h1, h2⟩ := bst_best T M L i
    have hb := bst_bd T M L i
    unfold bst
    generalize bst T M L i = B at *
    by_cases hc : (T (pth L i) && (decide (B < 0) || decide (M (pth L i) < M (pth L B.toNat)))) = true
    · rw [if_pos hc]
      simp only [Bool.and_eq_true, Bool.or_eq_true, decide_eq_true_eq] at hc
      exact ⟨fun _ => by rw [Int.toNat_natCast]; exact hc.1, fun t ht hT => by omega⟩
    · rw [if_neg hc]
      refine ⟨h1, fun t ht hT => ?_⟩
      by_cases e : t = i
      · subst e
        simp only [Bool.and_eq_true, Bool.or_eq_true, decide_eq_true_eq, not_and, not_or] at hc
        obtain ⟨h5, _⟩ := hc hT
        omega
      · exact h2 t (by omega) hT
theorem bst_none {T : Pv → Bool} {M : Pv → Int} {L : List Pv} (h : bst T M L L.length < 0) : L.any T = false := by
  rw [List.any_eq_false]
  intro p hp
  obtain ⟨i, hi, rfl⟩ := List.getElem_of_mem hp
  intro hT
  have := (bst_best T M L L.length).2 i hi (by rw [pth_eq hi]; exact hT)
  omega
def nex (L : List Pv) (p : Pv) : Bool := p.call (oth L) && p.room && p.h
def ful (L : List Pv) (p : Pv) : Bool := p.call (oth L) && decide (1 ≤ p.w) && !p.room
/-- What a decision of a kind is, and when one must come. -/
def Snd (kd : Nat) (V : Vw) : Option Pk → Prop
  | none => (kd < 2 → V.has = true → V.L.any (rdy V.L) = false) ∧ (kd = 2 → V.L.any (nex V.L) = false) ∧ (kd = 3 → V.has = true → V.L.any (rdy V.L) = true → V.L.any (ful V.L) = true)
  | some p => ∃ k : Nat, p.path = k ∧ k < V.L.length ∧ rdy V.L (pth V.L k) = true ∧ (kd = 2 → (pth V.L k).h = true ∧ p.off = (pth V.L k).c.off ∧ p.len = (pth V.L k).c.len) ∧ (kd ≠ 2 → V.has = true ∧ p.off = V.want.off ∧ p.len = V.want.len)
theorem snd_min (V : Vw) : Snd 0 V (minO V) := by
  unfold minO
  by_cases hh : V.has = true
  · rw [if_pos hh]
    unfold sendO
    by_cases hb : V.fastest < 0
    · rw [if_pos hb]
      exact ⟨fun _ _ => bst_none hb, fun h => by omega, fun h => by omega⟩
    · rw [if_neg hb]
      have h1 := bst_bd (rdy V.L) Pv.time V.L V.L.length
      have h2 := (bst_best (rdy V.L) Pv.time V.L V.L.length).1 (by unfold Vw.fastest at hb; omega)
      unfold Vw.fastest at hb ⊢
      exact ⟨(bst (rdy V.L) Pv.time V.L V.L.length).toNat, by simp only; omega, by omega, h2, fun h => by omega, fun _ => ⟨hh, rfl, rfl⟩⟩
  · rw [if_neg hh]
    exact ⟨fun _ h => absurd h hh, fun h => by omega, fun h => by omega⟩
theorem nex_red (L : List Pv) (p : Pv) : nex L p = redT L p := by unfold nex redT rdy; cases p.h <;> simp
theorem snd_red (V : Vw) : Snd 2 V (redO V) := by
  unfold redO
  by_cases hb : V.hind < 0
  · rw [if_pos hb]
    refine ⟨fun h => by omega, fun _ => ?_, fun h => by omega⟩
    have := bst_none hb
    rwa [show nex V.L = redT V.L from funext (nex_red V.L)]
  · rw [if_neg hb]
    have h1 := bst_bd (redT V.L) (fun p => p.c.off) V.L V.L.length
    have h2 := (bst_best (redT V.L) (fun p => p.c.off) V.L V.L.length).1 (by unfold Vw.hind at hb; omega)
    unfold Vw.hind at hb ⊢
    unfold redT at h2
    simp only [Bool.and_eq_true] at h2
    exact ⟨(bst (redT V.L) (fun p => p.c.off) V.L V.L.length).toNat, by simp only; omega, by omega, h2.2, fun _ => ⟨h2.1, rfl, rfl⟩, fun h => absurd rfl h⟩
theorem any_of {L : List Pv} {T : Pv → Bool} {k : Nat} (hk : k < L.length) (h : T (pth L k) = true) : L.any T = true := List.any_eq_true.2 ⟨L[k], List.getElem_mem hk, by rw [pth_eq hk] at h; exact h⟩
theorem wid_of {L : List Pv} {p : Pv} (h : rdy L p = true) : wid L p = true := by
  unfold rdy Pv.room at h
  unfold wid
  simp only [Bool.and_eq_true, decide_eq_true_eq] at h ⊢
  exact ⟨h.1, h.2.1.2⟩
theorem snd_ble (V : Vw) : Snd 3 V (bleO V) := by
  unfold bleO
  by_cases hh : V.has = true
  · rw [if_pos hh]
    have h1 := bst_bd (wid V.L) Pv.time V.L V.L.length
    have h2 := (bst_best (wid V.L) Pv.time V.L V.L.length).1
    by_cases hb : V.widest < 0
    · rw [if_pos hb]
      refine ⟨fun h => by omega, fun h => by omega, fun _ _ hr => ?_⟩
      have h3 := bst_none hb
      obtain ⟨p, hp, hq⟩ := List.any_eq_true.1 hr
      rw [List.any_eq_false] at h3
      exact absurd (wid_of hq) (h3 p hp)
    · rw [if_neg hb]
      unfold Vw.widest at hb ⊢
      have h3 := h2 (by omega)
      have hk : (bst (wid V.L) Pv.time V.L V.L.length).toNat < V.L.length := by omega
      have hi : ((bst (wid V.L) Pv.time V.L V.L.length).toNat : Int) = bst (wid V.L) Pv.time V.L V.L.length := by omega
      generalize bst (wid V.L) Pv.time V.L V.L.length = B at *
      by_cases hrm : (pth V.L B.toNat).room = true
      · rw [if_pos hrm]
        unfold wid at h3
        simp only [Bool.and_eq_true] at h3
        exact ⟨B.toNat, hi.symm, hk, by unfold rdy; rw [h3.1, hrm]; rfl, fun h => by omega, fun _ => ⟨hh, rfl, rfl⟩⟩
      · rw [if_neg hrm]
        have hful : V.L.any (ful V.L) = true := any_of hk (by
          unfold wid at h3
          unfold ful
          rw [h3]
          simpa using hrm)
        split
        · exact ⟨fun h => by omega, fun h => by omega, fun _ _ _ => hful⟩
        · rename_i hf
          split
          · exact ⟨fun h => by omega, fun h => by omega, fun _ _ _ => hful⟩
          · have g1 := bst_bd (rdy V.L) Pv.time V.L V.L.length
            have g2 := (bst_best (rdy V.L) Pv.time V.L V.L.length).1 (by unfold Vw.fastest at hf; omega)
            unfold Vw.fastest at hf ⊢
            exact ⟨(bst (rdy V.L) Pv.time V.L V.L.length).toNat, by simp only; omega, by omega, g2, fun h => by omega, fun _ => ⟨hh, rfl, rfl⟩⟩
  · rw [if_neg hh]
    exact ⟨fun h => by omega, fun h => by omega, fun _ h => absurd h hh⟩
theorem snd_rr_no (V : Vw) (h : V.has = false ∨ V.L.any (rdy V.L) = false) : Snd 1 V none :=
  ⟨fun _ h1 => by rcases h with h | h; rw [h] at h1; cases h1; exact h, fun h => by omega, fun h => by omega⟩
theorem snd_rr_yes (V : Vw) (hh : V.has = true) {ws : List Int} {t l t' l' : Int} (h0 : 0 ≤ t) (h : Turns ws (rdy V.L) V.L t l t' l') : Snd 1 V (some ⟨t', V.want.off, V.want.len⟩) := by
  have h1 := stay_bd (turns_end h)
  have h2 := turns_lo h h0
  exact ⟨t'.toNat, by simp only; omega, by omega, h1.2.2, fun h => by omega, fun _ => ⟨hh, rfl, rfl⟩⟩
/-- A scheduler of one of the four kinds; its memory lies from w's end on, ahead of N. -/
def ScAt (w wr : World) (kd s N : Nat) : Prop := s < N ∧ N ≤ wr.heap.size ∧ w.heap.size ≤ s ∧ ((kd = 0 ∧ Row wr s [.iface 60 (.agg #[])] 33) ∨ (kd = 2 ∧ Row wr s [.iface 64 (.agg #[])] 33) ∨ (kd = 3 ∧ Row wr s [.iface 65 (.agg #[])] 33) ∨
  (kd = 1 ∧ ∃ r ws wa wc t l, Row wr s [.iface 62 (.pointer (some ⟨r, 0, none⟩))] 33 ∧ RRAt wr r w.heap.size ws wa wc t l ∧ s ≠ r ∧ w.heap.size ≤ r ∧ r < N ∧ (∀ g, (Value.slice wa ws.length wc).ownBlock = some g → g < wr.heap.size)))
theorem ScAt.kept {w wr w' : World} {kd s N : Nat} (h : ScAt w wr kd s N) (hb : Below wr.heap.size wr w') : ScAt w w' kd s N := by
  obtain ⟨hs, hn, hw, h⟩ := h
  refine ⟨hs, Nat.le_trans hn hb.size, hw, ?_⟩
  rcases h with ⟨e, h⟩ | ⟨e, h⟩ | ⟨e, h⟩ | ⟨e, r, ws, wa, wc, t, l, h1, h2, h3, h4, h6, h5⟩
  · exact .inl ⟨e, h.kept hb h.lt⟩
  · exact .inr (.inl ⟨e, h.kept hb h.lt⟩)
  · exact .inr (.inr (.inl ⟨e, h.kept hb h.lt⟩))
  · exact .inr (.inr (.inr ⟨e, r, ws, wa, wc, t, l, h1.kept hb h1.lt, h2.kept hb, h3, h4, h6, fun g hg => Nat.lt_of_lt_of_le (h5 g hg) hb.size⟩))
def ScAns (w wr : World) (kd s N : Nat) (V : Vw) (e : Ending) (w' : World) : Prop := ∃ o : Option Pk, e = .returned (pkv o) ∧ Snd kd V o ∧ ScAt w w' kd s N ∧ Fr (fun k => w.heap.size ≤ k ∧ k < N) wr w'
theorem sc_next {w wr : World} {kd s N : Nat} (h : ScAt w wr kd s N) (hb : Below w.heap.size w wr) {V : Vw} (hV : VwIn w V) : Calls Try.prog 11 #[.pointer (some ⟨s, 0, none⟩), V.val] wr fun e w' => ScAns w wr kd s N V e w' := by
  have h' := h
  obtain ⟨hs, hn, hw, h⟩ := h
  have hVr := hV.at_.kept hb
  rcases h with ⟨rfl, h⟩ | ⟨rfl, h⟩ | ⟨rfl, h⟩ | ⟨rfl, r, ws, wa, wc, t, l, h1, h2, h3, h4, h6, h5⟩
  · exact (next0_any hVr h).mono (by rintro e w2 ⟨rfl, hb2⟩; exact ⟨_, rfl, snd_min V, h'.kept hb2, fr0 hb2⟩)
  · exact (next2_any hVr h).mono (by rintro e w2 ⟨rfl, hb2⟩; exact ⟨_, rfl, snd_red V, h'.kept hb2, fr0 hb2⟩)
  · exact (next3_any hVr hV.o0 hV.e1 h).mono (by rintro e w2 ⟨rfl, hb2⟩; exact ⟨_, rfl, snd_ble V, h'.kept hb2, fr0 hb2⟩)
  · by_cases hc : V.has = true ∧ V.L.any (rdy V.L) = true
    · obtain ⟨t', l', hT⟩ := turns_any ws hc.2 h2.t0 l
      have hna : ∀ g o, V.a = some ⟨g, o, none⟩ → g ≠ r := by
        intro g o e
        obtain ⟨p, hp, _⟩ := List.any_eq_true.1 hc.2
        obtain ⟨i, hi, rfl⟩ := List.getElem_of_mem hp
        obtain ⟨g', o', e', c⟩ := hV.at_.at_ i hi
        rw [e] at e'
        cases e'
        have := World.block_lt_of_cell? w _ (c 0 _ rfl)
        simp at this
        omega
      refine (next1_yes h2 h5 h1 h3 hVr hna hc.1 hc.2 hT).mono ?_
      rintro e w2 ⟨rfl, hf, hr⟩
      refine ⟨_, rfl, snd_rr_yes V hc.1 h2.t0 hT, ⟨hs, Nat.le_trans hn hf.size, hw, .inr (.inr (.inr ⟨rfl, r, ws, wa, wc, t', l' - 1, hf.row h1 h3, hr, h3, h4, h6, fun g hg => Nat.lt_of_lt_of_le (h5 g hg) hf.size⟩))⟩, hf.wider (fun k e => by subst e; exact ⟨h4, h6⟩)⟩
    · have hn' : V.has = false ∨ V.L.any (rdy V.L) = false := by
        by_cases a : V.has = true
        · right; cases b : V.L.any (rdy V.L) with | false => rfl | true => exact absurd ⟨a, b⟩ hc
        · left; simpa using a
      exact (next1_no h2 h1 hVr hn').mono (by rintro e w2 ⟨rfl, hb2⟩; exact ⟨_, rfl, snd_rr_no V hn', h'.kept hb2, fr0 hb2⟩)
/-- What the next decision is, said ahead. -/
theorem sc_next2 {w wr : World} {kd s N : Nat} (h : ScAt w wr kd s N) (hb : Below w.heap.size w wr) {V : Vw} (hV : VwIn w V) : ∃ o : Option Pk, Snd kd V o ∧ Calls Try.prog 11 #[.pointer (some ⟨s, 0, none⟩), V.val] wr fun e w' => e = .returned (pkv o) ∧ ScAt w w' kd s N ∧ Fr (fun k => w.heap.size ≤ k ∧ k < N) wr w' := by
  have h' := h
  obtain ⟨hs, hn, hw, h⟩ := h
  have hVr := hV.at_.kept hb
  rcases h with ⟨rfl, h⟩ | ⟨rfl, h⟩ | ⟨rfl, h⟩ | ⟨rfl, r, ws, wa, wc, t, l, h1, h2, h3, h4, h6, h5⟩
  · exact ⟨_, snd_min V, (next0_any hVr h).mono (by rintro e w2 ⟨rfl, hb2⟩; exact ⟨rfl, h'.kept hb2, fr0 hb2⟩)⟩
  · exact ⟨_, snd_red V, (next2_any hVr h).mono (by rintro e w2 ⟨rfl, hb2⟩; exact ⟨rfl, h'.kept hb2, fr0 hb2⟩)⟩
  · exact ⟨_, snd_ble V, (next3_any hVr hV.o0 hV.e1 h).mono (by rintro e w2 ⟨rfl, hb2⟩; exact ⟨rfl, h'.kept hb2, fr0 hb2⟩)⟩
  · by_cases hc : V.has = true ∧ V.L.any (rdy V.L) = true
    · obtain ⟨t', l', hT⟩ := turns_any ws hc.2 h2.t0 l
      have hna : ∀ g o, V.a = some ⟨g, o, none⟩ → g ≠ r := by
        intro g o e
        obtain ⟨p, hp, _⟩ := List.any_eq_true.1 hc.2
        obtain ⟨i, hi, rfl⟩ := List.getElem_of_mem hp
        obtain ⟨g', o', e', c⟩ := hV.at_.at_ i hi
        rw [e] at e'
        cases e'
        have := World.block_lt_of_cell? w _ (c 0 _ rfl)
        simp at this
        omega
      refine ⟨_, snd_rr_yes V hc.1 h2.t0 hT, (next1_yes h2 h5 h1 h3 hVr hna hc.1 hc.2 hT).mono ?_⟩
      rintro e w2 ⟨rfl, hf, hr⟩
      exact ⟨rfl, ⟨hs, Nat.le_trans hn hf.size, hw, .inr (.inr (.inr ⟨rfl, r, ws, wa, wc, t', l' - 1, hf.row h1 h3, hr, h3, h4, h6, fun g hg => Nat.lt_of_lt_of_le (h5 g hg) hf.size⟩))⟩, hf.wider (fun k e => by subst e; exact ⟨h4, h6⟩)⟩
    · have hn' : V.has = false ∨ V.L.any (rdy V.L) = false := by
        by_cases a : V.has = true
        · right; cases b : V.L.any (rdy V.L) with | false => rfl | true => exact absurd ⟨a, b⟩ hc
        · left; simpa using a
      exact ⟨_, snd_rr_no V hn', (next1_no h2 h1 hVr hn').mono (by rintro e w2 ⟨rfl, hb2⟩; exact ⟨rfl, h'.kept hb2, fr0 hb2⟩)⟩
/-- New of one of the four kinds. -/
theorem sc_new {w : World} {a1 : Option Addr} {c1 : Nat} {ws : List Int} (hs : SrcAt w 1 (.slice a1 ws.length c1) ws.length (icells ws)) (hl : ws.length * 8 ≤ 140737488355328) (kd : Nat) (hk : kd < 4) :
    Calls Try.prog 9 #[.int .i64 kd, .slice a1 ws.length c1, .slice none 0 0] w fun e w' => ∃ s, e = .returned (.pointer (some ⟨s, 0, none⟩)) ∧ ScAt w w' kd s w'.heap.size ∧ Below w.heap.size w w' := by
  rcases (show kd = 0 ∨ kd = 1 ∨ kd = 2 ∨ kd = 3 by omega) with rfl | rfl | rfl | rfl
  · exact (new0_any w a1 none ws.length c1 0 0).mono (by rintro e w1 ⟨hb, s, rfl, h1, h2⟩; exact ⟨s, rfl, ⟨h2.lt, Nat.le_refl _, h1, .inl ⟨rfl, h2⟩⟩, hb⟩)
  · exact (new1_any hs hl none 0 0).mono (by rintro e w1 ⟨hb, s, r, rfl, h1, h2, h3, h4, a', c', h5, h6⟩; exact ⟨s, rfl, ⟨h2.lt, Nat.le_refl _, h1, .inr (.inr (.inr ⟨rfl, r, ws, a', c', 0, wgt ws 0, h2, h5, Ne.symm h4, h3, h5.row.lt, h6⟩))⟩, hb⟩)
  · exact (new2_any w a1 none ws.length c1 0 0).mono (by rintro e w1 ⟨hb, s, rfl, h1, h2⟩; exact ⟨s, rfl, ⟨h2.lt, Nat.le_refl _, h1, .inr (.inl ⟨rfl, h2⟩)⟩, hb⟩)
  · exact (new3_any w a1 none ws.length c1 0 0).mono (by rintro e w1 ⟨hb, s, rfl, h1, h2⟩; exact ⟨s, rfl, ⟨h2.lt, Nat.le_refl _, h1, .inr (.inr (.inl ⟨rfl, h2⟩))⟩, hb⟩)
end Go.Proofs.Ytdbdiebgjnofgaa
