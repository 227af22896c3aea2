import Derived.Test.YtnohammflhadpaaSb34
import Derived.Deep.CutRange
namespace Go.Proofs.Ytnohammflhadpaa
open Go.RowKit Go.Maps Go.Sort
set_option maxRecDepth 100000

/-- What the chunks are: where they lie, their bytes, and whether one is the end. -/
def Ck.tri (c : Ck) : Int × List (BitVec 8) × Bool := (c.off, c.bs, c.fin)
def Sb.tri (F : Sb) : List (Int × List (BitVec 8) × Bool) := F.L.map Ck.tri
/-- What holds of a stream at any time, beside Ok. -/
structure Sb.Gs (F : Sb) : Prop where
  fin : F.Fin
  opn : F.closed = false → F.acked ≤ F.end_
/-- What a stream is behind a call that is no Write. -/
structure Pg (F F' : Sb) : Prop where
  room : F'.room = F.room
  mss : F'.mss = F.mss
  end_ : F'.end_ = F.end_
  up : F.acked ≤ F'.acked
  gs : F'.Gs
  tri : (F'.closed = F.closed ∧ ∃ n, F'.tri = F.tri.drop n) ∨ (F.closed = false ∧ F'.closed = true ∧ F'.tri = F.tri ++ [(F.end_, [], true)])
theorem Pg.refl {F : Sb} (h : F.Gs) : Pg F F := ⟨rfl, rfl, rfl, Int.le_refl _, h, .inl ⟨rfl, 0, rfl⟩⟩
theorem tri_last {F F' : Sb} (h : F'.L.map Ck.tri = F.L.map Ck.tri) {c : Ck} (hc : F.L.getLast? = some c) : ∃ d, F'.L.getLast? = some d ∧ d.fin = c.fin := by
  have h1 := congrArg List.getLast? h
  rw [List.getLast?_map, List.getLast?_map, hc] at h1
  cases hd : F'.L.getLast? with
  | none => rw [hd] at h1; simp at h1
  | some d =>
    rw [hd] at h1
    simp only [Option.map_some, Option.some.injEq, Ck.tri, Prod.mk.injEq] at h1
    exact ⟨d, rfl, h1.2.2⟩
theorem pg_put {F : Sb} (h : F.Gs) {k : Nat} (hk : k < F.L.length) {c : Ck} (hc : c.off = F.L[k].off ∧ c.bs = F.L[k].bs ∧ c.fin = F.L[k].fin) : Pg F (F.put k c) := by
  have ht : (F.L.set k c).map Ck.tri = F.L.map Ck.tri := by
    rw [List.map_set]
    have e : Ck.tri c = Ck.tri F.L[k] := by unfold Ck.tri; rw [hc.1, hc.2.1, hc.2.2]
    rw [e]
    apply List.ext_getElem
    · simp
    · intro i h1 h2
      rw [List.getElem_set]
      split
      · rename_i e; subst e; simp
      · rfl
  refine ⟨rfl, rfl, rfl, Int.le_refl _, ⟨fun h1 h2 => ?_, h.opn⟩, .inl ⟨rfl, 0, ht⟩⟩
  obtain ⟨d, hd, hf⟩ := h.fin h1 h2
  obtain ⟨d', hd', hf'⟩ := tri_last (F := F) (F' := F.put k c) ht hd
  exact ⟨d', hd', hf'.trans hf⟩
def PgAns (w : World) (p : Nat) (F : Sb) (S : Nat → Prop) (w' : World) : Prop := ∃ F', Bf w' p F' (grew S w w') ∧ Fr S w w' ∧ Pg F F'
theorem pgans_below {w w' : World} {p : Nat} {F : Sb} {S : Nat → Prop} (h : Bf w p F S) (hg : F.Gs) (hb : Below w.heap.size w w') : PgAns w p F S w' :=
  ⟨F, (h.kept hb).wider (fun _ hx => .inl hx) (grew_lt h.lt hb.size), Fr.of_below hb (Nat.le_refl _), Pg.refl hg⟩
theorem pgans_same {w w' : World} {p : Nat} {F F' : Sb} {S T : Nat → Prop} {a : Option Addr} {cap : Nat} (h : BfA w p F S a cap) (hs : SbW w' p F' a cap) (hL : ∀ c ∈ F'.L, ∃ d ∈ F.L, c.a = d.a) (hf : Fr T w w') (hT : ∀ x, T x → S x) (hp : Pg F F') : PgAns w p F S w' :=
  ⟨F', ⟨a, cap, hs, .inl h.sp, fun g o e => .inl (h.sa g o e), fun c hc g o e => by
    obtain ⟨d, hd, e'⟩ := hL c hc
    exact .inl (h.sy d hd g o (e' ▸ e)), grew_lt h.lt hf.size⟩, hf.wider hT, hp⟩
theorem PgAns.from_ {w wc w' : World} {p : Nat} {F : Sb} {S : Nat → Prop} (hb : Below w.heap.size w wc) (h : PgAns wc p F S w') : PgAns w p F S w' := by
  obtain ⟨F', h1, h2, h3⟩ := h
  refine ⟨F', h1.wider (fun x hx => ?_) (fun x hx => ?_), (Fr.of_below hb (Nat.le_refl _)).trans h2 (fun x hx => .inl hx), h3⟩
  · rcases hx with hx | hx
    · exact .inl hx
    · exact .inr ⟨Nat.le_trans hb.size hx.1, hx.2⟩
  · rcases hx with hx | hx
    · exact h1.lt x (.inl hx)
    · exact hx.2
theorem sent_G {w : World} {p : Nat} {F : Sb} {S : Nat → Prop} (h : Bf w p F S) (hg : F.Gs) (x off : Int) :
    Calls Try.prog 17 #[.pointer (some ⟨p, 0, none⟩), .int .i64 x, .int .u64 off] w fun e w' => (∃ b, e = .returned (.bool b)) ∧ PgAns w p F S w' := by
  obtain ⟨a, cap, h⟩ := h
  by_cases hn : ∃ k, F.find off k
  · obtain ⟨k, hk, he⟩ := hn
    obtain ⟨g, o, rfl⟩ := h.at_ hk
    cases hz : F.mayOn F.L[k] (bit x) with
    | true =>
      refine (sent_on h.sb x hk he hz).mono ?_
      rintro e w' ⟨rfl, hs, hf⟩
      have hp := pg_put hg hk (c := F.L[k].go (bit x)) ⟨rfl, rfl, rfl⟩
      exact ⟨⟨_, rfl⟩, pgans_same h hs (put_a hk rfl) hf (fun y hy => by rcases hy with rfl | rfl; exact h.sa _ _ rfl; exact h.sp) ⟨hp.room, hp.mss, hp.end_, hp.up, ⟨hp.gs.fin, hp.gs.opn⟩, hp.tri⟩⟩
    | false =>
      refine (sent_off h.sb.r x hk he hz).mono ?_
      rintro e w' ⟨rfl, hb⟩
      exact ⟨⟨_, rfl⟩, pgans_below ⟨_, cap, h⟩ hg hb⟩
  · refine (sent_none h.sb.r x off (fun k hk => hn ⟨k, hk⟩)).mono ?_
    rintro e w' ⟨rfl, hb⟩
    exact ⟨⟨_, rfl⟩, pgans_below ⟨a, cap, h⟩ hg hb⟩
theorem lost_G {w : World} {p : Nat} {F : Sb} {S : Nat → Prop} (h : Bf w p F S) (hg : F.Gs) (x off : Int) :
    Calls Try.prog 46 #[.pointer (some ⟨p, 0, none⟩), .int .i64 x, .int .u64 off] w fun e w' => (∃ b, e = .returned (.bool b)) ∧ PgAns w p F S w' := by
  obtain ⟨a, cap, h⟩ := h
  by_cases hn : ∃ k, F.isOn x off k
  · obtain ⟨k, hk, he, hz⟩ := hn
    obtain ⟨g, o, rfl⟩ := h.at_ hk
    refine (lost_on h.sb x hk he hz).mono ?_
    rintro e w' ⟨rfl, hs, hf⟩
    exact ⟨⟨_, rfl⟩, pgans_same h hs (put_a hk rfl) hf (fun y hy => by subst hy; exact h.sa _ _ rfl) (pg_put hg hk ⟨rfl, rfl, rfl⟩)⟩
  · refine (lost_no h.sb.r x off (fun k hk => hn ⟨k, hk⟩)).mono ?_
    rintro e w' ⟨rfl, hb⟩
    exact ⟨⟨_, rfl⟩, pgans_below ⟨a, cap, h⟩ hg hb⟩
theorem held_G {w : World} {p : Nat} {F : Sb} {S : Nat → Prop} (h : Bf w p F S) (hg : F.Gs) (x off : Int) :
    Calls Try.prog 47 #[.pointer (some ⟨p, 0, none⟩), .int .i64 x, .int .u64 off] w fun e w' => (∃ b, e = .returned (.bool b)) ∧ PgAns w p F S w' := by
  obtain ⟨a, cap, h⟩ := h
  by_cases hn : ∃ k, F.isOn x off k
  · obtain ⟨k, hk, he, hz⟩ := hn
    obtain ⟨g, o, rfl⟩ := h.at_ hk
    refine (held_on h.sb x hk he hz).mono ?_
    rintro e w' ⟨rfl, hs, hf⟩
    exact ⟨⟨_, rfl⟩, pgans_same h hs (put_a hk rfl) hf (fun y hy => by subst hy; exact h.sa _ _ rfl) (pg_put hg hk ⟨rfl, rfl, rfl⟩)⟩
  · refine (held_no h.sb.r x off (fun k hk => hn ⟨k, hk⟩)).mono ?_
    rintro e w' ⟨rfl, hb⟩
    exact ⟨⟨_, rfl⟩, pgans_below ⟨a, cap, h⟩ hg hb⟩
theorem ack_X2 {w : World} {p : Nat} {F : Sb} {S : Nat → Prop} (h : Bf w p F S) {b : Bool} (hb : F.endOut = b) (hF : F.Fin) (v E : Int) (hE0 : 0 ≤ E) (hE1 : E ≤ 18446744073709551615) (hv : v ≤ (if b = true then F.high + 1 else F.high)) :
    Calls Try.prog 18 #[.pointer (some ⟨p, 0, none⟩), .int .u64 v, .int .u64 E] w fun e w' => e = .returned (.bool (decide (F.acked < v) || decide (F.edge < E))) ∧ ∃ n, Bf w' p (F.acks (max F.acked v) (max F.edge E) n) (grew S w w') ∧ Fr S w w' ∧ ∀ i (h : i < F.L.length), i < n → F.L[i].behind ≤ max F.acked v := by
  obtain ⟨a, cap, h⟩ := h
  have he := endOut_any h.sb.r hF
  rw [hb] at he
  refine (ack_yes h.sb he hE0 hE1 hv).mono ?_
  rintro e w' ⟨rfl, n, a', cap', hD⟩
  refine ⟨rfl, n, ⟨a', cap', hD.sb, .inl h.sp, fun g o e => ?_, fun c hc g o e => .inl (h.sy c (List.mem_of_mem_drop hc) g o e), grew_lt h.lt hD.fr.size⟩, hD.fr.wider (fun x hx => ?_), hD.old⟩
  · obtain ⟨o', e'⟩ := hD.ap g o e
    exact .inl (h.sa g o' e')
  · rcases hx with rfl | ⟨o, e⟩
    · exact h.sp
    · exact h.sa _ _ e
theorem ack_G {w : World} {p : Nat} {F : Sb} {S : Nat → Prop} (h : Bf w p F S) (hg : F.Gs) (v E : Int) (hE0 : 0 ≤ E) (hE1 : E ≤ 18446744073709551615) :
    Calls Try.prog 18 #[.pointer (some ⟨p, 0, none⟩), .int .u64 v, .int .u64 E] w fun e w' => (∃ b, e = .returned (.bool b)) ∧ PgAns w p F S w' := by
  obtain ⟨eo, heo⟩ : ∃ eo, F.endOut = eo := ⟨_, rfl⟩
  by_cases hv : (if eo = true then F.high + 1 else F.high) < v
  · refine (ack_X_no h heo hg.fin v E hv).mono ?_
    rintro e w' ⟨rfl, hb⟩
    exact ⟨⟨_, rfl⟩, pgans_below h hg hb⟩
  · have h1 := h.ok.h1
    refine (ack_X2 h heo hg.fin v E hE0 hE1 (by omega)).mono ?_
    rintro e w' ⟨rfl, n, k1, k2, k3⟩
    refine ⟨⟨_, rfl⟩, _, k1, k2, ⟨rfl, rfl, rfl, Int.le_max_left _ _, ⟨fun c1 c2 => ?_, fun c1 => ?_⟩, .inl ⟨rfl, n, ?_⟩⟩⟩
    · have c1' : F.closed = true := c1
      have c2' : max F.acked v ≤ F.end_ := c2
      obtain ⟨c, hc, hf⟩ := hg.fin c1' (by omega)
      refine ⟨c, ?_, hf⟩
      show (F.L.drop n).getLast? = some c
      rw [List.getLast?_drop]
      split
      · rename_i hl
        exfalso
        have hc2 := hc
        rw [List.getLast?_eq_getElem?] at hc2
        obtain ⟨hlt, e⟩ := List.getElem?_eq_some_iff.1 hc2
        have h7 := k3 _ hlt (by omega)
        rw [e] at h7
        have h8 := ((h.ok.ck c (List.mem_of_getLast? hc)).fin hf).2
        unfold Ck.behind at h7
        rw [if_pos hf] at h7
        omega
      · exact hc
    · have c1' : F.closed = false := c1
      have he : F.endOut = false := by unfold Sb.endOut; rw [c1']; rfl
      rw [heo] at he
      subst he
      rw [if_neg (by decide)] at hv
      have := hg.opn c1'
      show max F.acked v ≤ F.end_
      omega
    · show (F.L.drop n).map _ = (F.L.map _).drop n
      rw [List.map_drop]
theorem close_G {w : World} {p : Nat} {F : Sb} {S : Nat → Prop} (h : Bf w p F S) (hg : F.Gs) :
    Calls Try.prog 12 #[.pointer (some ⟨p, 0, none⟩)] w fun e w' => e = .returned (.bool (!F.closed)) ∧ PgAns w p F S w' := by
  by_cases hc : F.closed = true
  · have h' := h
    obtain ⟨a, cap, hA⟩ := h'
    refine (close_no hA.sb.r hc).mono ?_
    rintro e w' ⟨rfl, rfl⟩
    exact ⟨by rw [hc]; rfl, pgans_below h hg (Below.refl _ _)⟩
  · have hc : F.closed = false := by simpa using hc
    have ha := hg.opn hc
    have hfew := h.ok.few hc ha
    have hr1 := h.ok.r1
    have hfr := h.ok.fr
    refine (close_B h hc (by omega) ha).mono ?_
    rintro e w' ⟨rfl, k1, k2⟩
    refine ⟨by rw [hc]; rfl, F.shut, k1, k2, ⟨rfl, rfl, rfl, Int.le_refl _, ⟨fun _ _ => ⟨endCk F.end_, ?_, rfl⟩, fun c1 => by cases c1⟩, .inr ⟨hc, rfl, ?_⟩⟩⟩
    · show (F.L ++ [endCk F.end_]).getLast? = _
      simp
    · show (F.L ++ [endCk F.end_]).map Ck.tri = F.L.map Ck.tri ++ _
      rw [List.map_append]
      rfl
end Go.Proofs.Ytnohammflhadpaa
namespace Go.Proofs.Ytnohammflhadpaa
open Go.RowKit Go.Maps Go.Sort
set_option maxRecDepth 100000

set_option maxHeartbeats 4000000 in
theorem play_any {w : World} {p : Nat} {F : Sb} {S : Nat → Prop} (h : Bf w p F S) (hg : F.Gs) (k : Int) (ot : Bool) (pa off : Int) (rel : Bool) (ed n : Int) (da : Value) (hE0 : 0 ≤ ed) (hE1 : ed ≤ 18446744073709551615) :
    Calls Try.prog 21 #[.pointer (some ⟨p, 0, none⟩), .agg #[.int .i64 k, .bool ot, .int .i64 pa, .int .u64 off, .bool rel, .int .u64 ed, .int .i64 n, da]] w fun e w' => e = .returned (.tuple #[]) ∧ PgAns w p F S w' := by
  have HH := hid h
  have hbx : Below w.heap.size w (w.alloc (.cells #[.int .i64 k, .bool ot, .int .i64 pa, .int .u64 off, .bool rel, .int .u64 ed, .int .i64 n, da] 43)) := (Below.refl _ _).alloc (Nat.le_refl _) _
  have HBX := hid hbx
  have hR := Row.new w [.int .i64 k, .bool ot, .int .i64 pa, .int .u64 off, .bool rel, .int .u64 ed, .int .i64 n, da] 43
  have H1 := hid (h.kept hbx)
  have b0 := hR.cell 0 _ rfl
  have b2 := hR.cell 2 _ rfl
  have b3 := hR.cell 3 _ rfl
  have b4 := hR.cell 4 _ rfl
  have b5 := hR.cell 5 _ rfl
  clear h hbx hR
  go_enter Try.func21, Try.ntmps21
  go_upto_if 10 with fail
  generalize w.alloc (.cells #[.int .i64 k, .bool ot, .int .i64 pa, .int .u64 off, .bool rel, .int .u64 ed, .int .i64 n, da] 43) = W at *
  have hK : Hid (toKs W p F) := by
    obtain ⟨a, cap, hA⟩ := H1.out
    exact toK (n := 20) (args := #[.pointer (some ⟨p, 0, none⟩)]) (v := .int .u64 F.acked) (w := W) (fun w' hb => (acked_any (hA.sb.r.kept hb)).mono (by rintro e w'' ⟨rfl, rfl⟩; exact ⟨rfl, Below.refl _ _⟩))
  go_cut [4] from 4 to 15 (fun s4 wx => ∃ X : Int, s4 = .int .u64 X ∧ Below W.heap.size W wx)
  case first =>
    cases rel with
    | false =>
      go_wp2_with fail
      go_meet
      exact ⟨off, rfl, Below.refl _ _⟩
    | true =>
      have k3 := cell_regrown b3
      go_upto_region 3 with fail
      refine wp_region_quiet_below (by kernel_rfl) (by decide +kernel) ?_
      repeat (quiet_step (first | (go_at_call 20; exact hK.out _ _)))
      refine wpQuiet_nil ?_
      intro _ hw'
      obtain ⟨⟨dq, osq⟩, hw''⟩ := hw'
      subst hw''
      go_wp2_with fail
      go_meet
      exact ⟨_, rfl, below_regrown W dq osq⟩
  case rest =>
    obtain ⟨X, rfl, hbc⟩ := hcut
    have H2 := hid (H1.out.kept hbc)
    have HBW := hid (HBX.out.trans (hbc.mono HBX.out.size))
    replace b0 := cell_kept hbc b0
    replace b2 := cell_kept hbc b2
    replace b3 := cell_kept hbc b3
    replace b5 := cell_kept hbc b5
    clear hbc H1 HBX b4 hK HH
    by_cases k2 : k = 2
    · subst k2
      go_wp2_with fail
      refine (close_G H2.out hg).mono ?_
      rintro e w3 ⟨rfl, hA⟩
      have HA := hid (hA.from_ HBW.out)
      clear hA
      go_wp2_with fail
      refine bodyPost_end (results_none Try.results21 _ _ _) rfl ?_
      exact ⟨rfl, HA.out⟩
    by_cases k3 : k = 3
    · subst k3
      go_wp2_with fail
      refine (ack_G H2.out hg X ed hE0 hE1).mono ?_
      rintro e w3 ⟨⟨bb, rfl⟩, hA⟩
      have HA := hid (hA.from_ HBW.out)
      clear hA
      go_wp2_with fail
      refine bodyPost_end (results_none Try.results21 _ _ _) rfl ?_
      exact ⟨rfl, HA.out⟩
    by_cases k6 : k = 6
    · subst k6
      go_wp2_with fail
      refine (sent_G H2.out hg pa X).mono ?_
      rintro e w3 ⟨⟨bb, rfl⟩, hA⟩
      have HA := hid (hA.from_ HBW.out)
      clear hA
      go_wp2_with fail
      refine bodyPost_end (results_none Try.results21 _ _ _) rfl ?_
      exact ⟨rfl, HA.out⟩
    by_cases k7 : k = 7
    · subst k7
      go_wp2_with fail
      refine (lost_G H2.out hg pa X).mono ?_
      rintro e w3 ⟨⟨bb, rfl⟩, hA⟩
      have HA := hid (hA.from_ HBW.out)
      clear hA
      go_wp2_with fail
      refine bodyPost_end (results_none Try.results21 _ _ _) rfl ?_
      exact ⟨rfl, HA.out⟩
    by_cases k8 : k = 8
    · subst k8
      go_wp2_with fail
      refine (held_G H2.out hg pa X).mono ?_
      rintro e w3 ⟨⟨bb, rfl⟩, hA⟩
      have HA := hid (hA.from_ HBW.out)
      clear hA
      go_wp2_with fail
      refine bodyPost_end (results_none Try.results21 _ _ _) rfl ?_
      exact ⟨rfl, HA.out⟩
    by_cases k11 : k = 11
    · subst k11
      have HNX : Hid (Calls Try.prog 23 #[.pointer (some ⟨p, 0, none⟩), .int .i64 pa] wc fun e w' => LowAns wc (F.nxt pa) e w') := by
        obtain ⟨a, cap, hA⟩ := H2.out
        exact next_any hA.sb.r pa
      cases hx : F.nxt pa with
      | none =>
        rw [hx] at HNX
        go_wp2_with fail
        refine HNX.out.mono ?_
        rintro e w3 ⟨hb3, rfl⟩
        have HB3 := hid hb3
        clear hb3
        have hb4 : Below w3.heap.size w3 (w3.alloc (.cells #[.int .u64 0, .int .i64 0, .bool false, .slice none 0 0, .bool false] 32)) := (Below.refl _ _).alloc (Nat.le_refl _) _
        have HB4 := hid (HB3.out.trans (hb4.mono HB3.out.size))
        clear hb4
        go_wp2_with fail
        refine bodyPost_end (results_none Try.results21 _ _ _) rfl ?_
        exact ⟨rfl, (pgans_below H2.out hg HB4.out).from_ HBW.out⟩
      | some c =>
        rw [hx] at HNX
        clear hx
        go_wp2_with fail
        refine HNX.out.mono ?_
        rintro e w3 ⟨hb3, s, rfl, hs⟩
        obtain ⟨sa, sc, rfl⟩ := ownI_shape hs
        generalize (onUp c.on 8).length = sn at *
        unfold ChV
        have hb4 : Below w3.heap.size w3 (w3.alloc (.cells #[.int .u64 c.off, .int .i64 c.bs.length, .bool c.fin, .slice sa sn sc, .bool c.held] 32)) := (Below.refl _ _).alloc (Nat.le_refl _) _
        have hb34 := hb3.trans (hb4.mono hb3.size)
        have HB4 := hid hb34
        replace b2 := cell_kept hb34 b2
        clear hb3 hb4 hb34 hs HNX
        go_wp2_with fail
        refine (sent_G (H2.out.kept HB4.out) hg pa c.off).mono ?_
        rintro e w5 ⟨⟨bb, rfl⟩, hA⟩
        have HA := hid (hA.from_ (HBW.out.trans (HB4.out.mono HBW.out.size)))
        clear hA
        go_wp2_with fail
        refine bodyPost_end (results_none Try.results21 _ _ _) rfl ?_
        exact ⟨rfl, HA.out⟩
    · go_wp2_with fail
      refine bodyPost_end (results_none Try.results21 _ _ _) rfl ?_
      exact ⟨rfl, (pgans_below H2.out hg (Below.refl _ _)).from_ HBW.out⟩

/-- What a Write leaves that took so many bytes. -/
structure Wg (F F' : Sb) (bs : List (BitVec 8)) (n : Nat) : Prop where
  room : F'.room = F.room
  mss : F'.mss = F.mss
  closed : F'.closed = F.closed
  acked : F'.acked = F.acked
  end_ : F'.end_ = F.end_ + n
  gs : F'.Gs
  tri : ∃ T, F'.tri = F.tri ++ T ∧ (∀ x ∈ T, x.2.2 = false ∧ x.2.1 ≠ []) ∧ (T.map fun x => x.2.1).flatten = bs.take n
def WgAns (w : World) (p : Nat) (F : Sb) (S : Nat → Prop) (bs : List (BitVec 8)) (n : Nat) (w' : World) : Prop := ∃ F', Bf w' p F' (grew S w w') ∧ Fr S w w' ∧ Wg F F' bs n
/-- The bytes that a Write cuts, chunk by chunk. -/
theorem cutCks_tri (m g : Nat) (hm : 1 ≤ m) : ∀ (t o : Nat) (e : Int) (bs : List (BitVec 8)), bs.length ≤ t * m → (∀ x ∈ (cutCks m g t o e bs).map Ck.tri, x.2.2 = false ∧ x.2.1 ≠ []) ∧ (((cutCks m g t o e bs).map Ck.tri).map fun x => x.2.1).flatten = bs
  | 0, o, e, bs, h => by
    have : bs = [] := List.eq_nil_of_length_eq_zero (by simpa using h)
    subst this
    exact ⟨fun x hx => by simp [cutCks] at hx, rfl⟩
  | t + 1, o, e, bs, h => by
    by_cases hb : bs = []
    · subst hb
      exact ⟨fun x hx => by simp [cutCks] at hx, by simp [cutCks]⟩
    · have hp : 0 < bs.length := List.length_pos_iff.2 hb
      obtain ⟨ih1, ih2⟩ := cutCks_tri m g hm t (o + (bs.take m).length) (e + (bs.take m).length) (bs.drop m) (by rw [Nat.succ_mul] at h; simp; omega)
      rw [cutCks, if_neg hb]
      refine ⟨fun x hx => ?_, ?_⟩
      · rw [List.map_cons] at hx
        rcases List.mem_cons.1 hx with rfl | hx
        · refine ⟨rfl, ?_⟩
          show bs.take m ≠ []
          intro e
          have := congrArg List.length e
          rw [List.length_take, List.length_nil] at this
          omega
        · exact ih1 x hx
      · rw [List.map_cons, List.map_cons, List.flatten_cons, ih2]
        show bs.take m ++ bs.drop m = bs
        exact List.take_append_drop m bs
/-- Write of any stream. -/
def Sb.takesG (F : Sb) (N : Nat) : Nat := if F.closed = true then 0 else F.takes N
theorem write_G {w : World} {p : Nat} {F : Sb} {S : Nat → Prop} (h : Bf w p F S) (hg : F.Gs) {ax : Option Addr} {bs : List (BitVec 8)} (hB : BytesAt w ax bs) (N capx : Nat) (hN : bs.length = N) (hcx : N ≤ capx) (hNm : N ≤ 140737488355328) (hz : ax = none → capx = 0) (n : Nat) (hn : F.takesG N = n) :
    Calls Try.prog 11 #[.pointer (some ⟨p, 0, none⟩), .slice ax N capx] w fun e w' => e = .returned (.int .i64 n) ∧ WgAns w p F S bs n w' := by
  have hnone : ∀ w', Below w.heap.size w w' → WgAns w p F S bs 0 w' := fun w' hb =>
    ⟨F, (h.kept hb).wider (fun _ hx => .inl hx) (grew_lt h.lt hb.size), Fr.of_below hb (Nat.le_refl _), ⟨rfl, rfl, rfl, rfl, by simp, hg, [], by simp, fun x hx => by simp at hx, by simp⟩⟩
  unfold Sb.takesG at hn
  by_cases hc : F.closed = true
  · rw [if_pos hc] at hn
    subst hn
    have h' := h
    obtain ⟨a, cap, hA⟩ := h'
    refine (write_no hA.sb.r hc _).mono ?_
    rintro e w' ⟨rfl, rfl⟩
    exact ⟨rfl, hnone _ (Below.refl _ _)⟩
  · rw [if_neg hc] at hn
    have hc : F.closed = false := by simpa using hc
    have ha := hg.opn hc
    have hnN : n ≤ N := by unfold Sb.takes at hn; omega
    obtain ⟨a, cap, h⟩ := h
    refine (write_yes h.sb hc ha hB N capx hN hcx hNm hz (fun d hd g o e => h.lt g (h.sy d hd g o e)) (fun g o e => h.lt g (h.sa g o e)) n hn).mono ?_
    rintro e w' ⟨rfl, hA⟩
    refine ⟨rfl, ?_⟩
    rcases hA with ⟨rfl, hb⟩ | ⟨w1, m, g, t, a', cap', hn0, hb1, hm, hg', ht, hC⟩
    · exact hnone w' hb
    · have hm0 : 1 ≤ m := by have := h.sb.r.ok.m0; omega
      have hbl : (bs.take n).length = n := by rw [List.length_take]; omega
      have hsz := hb1.size
      have hfs := hC.fr.size
      have htri := cutCks_tri m g hm0 t 0 F.end_ (bs.take n) (by omega)
      have hee : (F.cutT m g 0 (bs.take n) t).end_ = F.end_ + n := by
        show F.end_ + _ = _
        rw [hbl]
        have : min (t * m) n = n := by omega
        rw [this]
      refine ⟨_, ⟨a', cap', hC.sb, .inl h.sp, fun g' o' e => ?_, fun c hc' g' o' e => ?_, grew_lt h.lt (Nat.le_trans hsz hfs)⟩, ?_, ⟨rfl, rfl, rfl, rfl, hee, ⟨fun c1 => ?_, fun _ => ?_⟩, _, ?_, htri.1, htri.2⟩⟩
      · rcases hC.ap g' o' e with ⟨o, e'⟩ | e'
        · exact .inl (h.sa g' o e')
        · refine .inr ⟨by omega, ?_⟩
          rcases hC.sb.own with e2 | ⟨g2, o2, arr, e2, hg2, _⟩
          · have hlc : (F.L ++ cutCks m g t 0 F.end_ (bs.take n)).length ≤ cap' := hC.sb.r.lc
            have hpr := congrArg List.length (cutCks_prs m g hm0 t 0 F.end_ (bs.take n) (by omega))
            rw [hbl, cutA_step hm0 _ hn0, List.length_map, List.length_cons] at hpr
            rw [List.length_append] at hlc
            omega
          · rw [e] at e2
            cases e2
            exact (Array.getElem?_eq_some_iff.1 hg2).1
      · have hc2 : c ∈ F.L ++ cutCks m g t 0 F.end_ (bs.take n) := hc'
        rcases List.mem_append.1 hc2 with h1 | h1
        · exact .inl (h.sy c h1 g' o' e)
        · obtain ⟨o2, e2⟩ := cutCks_a m g t _ _ _ c h1
          have hl := hC.lt c hc' g' o' e
          rw [e] at e2
          cases e2
          exact .inr ⟨hg', by omega⟩
      · exact ((Fr.of_below (S := S) hb1 (Nat.le_refl _)).trans hC.fr (fun x hx => by
          rcases hx with rfl | ⟨o, e⟩
          · exact .inl h.sp
          · exact .inl (h.sa x o e)))
      · have c1' : F.closed = true := c1
        rw [hc] at c1'
        cases c1'
      · rw [hee]
        show F.acked ≤ _
        omega
      · show (F.L ++ _).map _ = F.L.map _ ++ _
        rw [List.map_append]
end Go.Proofs.Ytnohammflhadpaa
