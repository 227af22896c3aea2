import Derived.Test.YtnohammflhadpaaSb36
import Derived.Deep.CutRange
namespace Go.Proofs.Ytnohammflhadpaa
open Go.RowKit Go.Maps Go.Sort
set_option maxRecDepth 100000

set_option maxHeartbeats 4000000 in
theorem play_any {w : World} {p : Nat} {F : Sb} {S : Nat → Prop} (h : Bf w p F S) (hg : F.Gs) (k : Int) (ot : Bool) (pa off : Int) (rel : Bool) (ed n : Int) (da : Value) (hE0 : 0 ≤ ed) (hE1 : ed ≤ 18446744073709551615) :
    Calls Try.prog 21 #[.pointer (some ⟨p, 0, none⟩), .agg #[.int .i64 k, .bool ot, .int .i64 pa, .int .u64 off, .bool rel, .int .u64 ed, .int .i64 n, da]] w fun e w' => e = .returned (.tuple #[]) ∧ PgAns w p F S w' := by
  have HH := hid h
  have hbx : Below w.heap.size w (w.alloc (.cells #[.int .i64 k, .bool ot, .int .i64 pa, .int .u64 off, .bool rel, .int .u64 ed, .int .i64 n, da] 43)) := (Below.refl _ _).alloc (Nat.le_refl _) _
  have HBX := hid hbx
  have hR := Row.new w [.int .i64 k, .bool ot, .int .i64 pa, .int .u64 off, .bool rel, .int .u64 ed, .int .i64 n, da] 43
  have H1 := hid (h.kept hbx)
  have b0 := hR.cell 0 _ rfl
  have b2 := hR.cell 2 _ rfl
  have b3 := hR.cell 3 _ rfl
  have b4 := hR.cell 4 _ rfl
  have b5 := hR.cell 5 _ rfl
  clear h hbx hR
  go_enter Try.func21, Try.ntmps21
  go_upto_if 10 with fail
  generalize w.alloc (.cells #[.int .i64 k, .bool ot, .int .i64 pa, .int .u64 off, .bool rel, .int .u64 ed, .int .i64 n, da] 43) = W at *
  have hK : Hid (toKs W p F) := by
    obtain ⟨a, cap, hA⟩ := H1.out
    exact toK (n := 20) (args := #[.pointer (some ⟨p, 0, none⟩)]) (v := .int .u64 F.acked) (w := W) (fun w' hb => (acked_any (hA.sb.r.kept hb)).mono (by rintro e w'' ⟨rfl, rfl⟩; exact ⟨rfl, Below.refl _ _⟩))
  go_cut [4] from 4 to 15 (fun s4 wx => ∃ X : Int, s4 = .int .u64 X ∧ Below W.heap.size W wx)
  case first =>
    cases rel with
    | false =>
      go_wp2_with fail
      go_meet
      exact ⟨off, rfl, Below.refl _ _⟩
    | true =>
      have k3 := cell_regrown b3
      go_upto_region 3 with fail
      refine wp_region_quiet_below (by kernel_rfl) (by decide +kernel) ?_
      repeat (quiet_step (first | (go_at_call 20; exact hK.out _ _)))
      refine wpQuiet_nil ?_
      intro _ hw'
      obtain ⟨⟨dq, osq⟩, hw''⟩ := hw'
      subst hw''
      go_wp2_with fail
      go_meet
      exact ⟨_, rfl, below_regrown W dq osq⟩
  case rest =>
    obtain ⟨X, rfl, hbc⟩ := hcut
    have H2 := hid (H1.out.kept hbc)
    have HBW := hid (HBX.out.trans (hbc.mono HBX.out.size))
    replace b0 := cell_kept hbc b0
    replace b2 := cell_kept hbc b2
    replace b3 := cell_kept hbc b3
    replace b5 := cell_kept hbc b5
    clear hbc H1 HBX b4 hK HH
    by_cases k2 : k = 2
    · subst k2
      go_wp2_with fail
      refine (close_G H2.out hg).mono ?_
      rintro e w3 ⟨rfl, hA⟩
      have HA := hid (hA.from_ HBW.out)
      clear hA
      go_wp2_with fail
      refine bodyPost_end (results_none Try.results21 _ _ _) rfl ?_
      exact ⟨rfl, HA.out⟩
    by_cases k3 : k = 3
    · subst k3
      go_wp2_with fail
      refine (ack_G H2.out hg X ed hE0 hE1).mono ?_
      rintro e w3 ⟨⟨bb, rfl⟩, hA⟩
      have HA := hid (hA.from_ HBW.out)
      clear hA
      go_wp2_with fail
      refine bodyPost_end (results_none Try.results21 _ _ _) rfl ?_
      exact ⟨rfl, HA.out⟩
    by_cases k6 : k = 6
    · subst k6
      go_wp2_with fail
      refine (sent_G H2.out hg pa X).mono ?_
      rintro e w3 ⟨⟨bb, rfl⟩, hA⟩
      have HA := hid (hA.from_ HBW.out)
      clear hA
      go_wp2_with fail
      refine bodyPost_end (results_none Try.results21 _ _ _) rfl ?_
      exact ⟨rfl, HA.out⟩
    by_cases k7 : k = 7
    · subst k7
      go_wp2_with fail
      refine (lost_G H2.out hg pa X).mono ?_
      rintro e w3 ⟨⟨bb, rfl⟩, hA⟩
      have HA := hid (hA.from_ HBW.out)
      clear hA
      go_wp2_with fail
      refine bodyPost_end (results_none Try.results21 _ _ _) rfl ?_
      exact ⟨rfl, HA.out⟩
    by_cases k8 : k = 8
    · subst k8
      go_wp2_with fail
      refine (held_G H2.out hg pa X).mono ?_
      rintro e w3 ⟨⟨bb, rfl⟩, hA⟩
      have HA := hid (hA.from_ HBW.out)
      clear hA
      go_wp2_with fail
      refine bodyPost_end (results_none Try.results21 _ _ _) rfl ?_
      exact ⟨rfl, HA.out⟩
    by_cases k11 : k = 11
    · subst k11
      have HNX : Hid (Calls Try.prog 23 #[.pointer (some ⟨p, 0, none⟩), .int .i64 pa] wc fun e w' => LowAns wc (F.nxt pa) e w') := by
        obtain ⟨a, cap, hA⟩ := H2.out
        exact next_any hA.sb.r pa
      cases hx : F.nxt pa with
      | none =>
        rw [hx] at HNX
        go_wp2_with fail
        refine HNX.out.mono ?_
        rintro e w3 ⟨hb3, rfl⟩
        have HB3 := hid hb3
        clear hb3
        have hb4 : Below w3.heap.size w3 (w3.alloc (.cells #[.int .u64 0, .int .i64 0, .bool false, .slice none 0 0, .bool false] 32)) := (Below.refl _ _).alloc (Nat.le_refl _) _
        have HB4 := hid (HB3.out.trans (hb4.mono HB3.out.size))
        clear hb4
        go_wp2_with fail
        refine bodyPost_end (results_none Try.results21 _ _ _) rfl ?_
        exact ⟨rfl, (pgans_below H2.out hg HB4.out).from_ HBW.out⟩
      | some c =>
        rw [hx] at HNX
        clear hx
        go_wp2_with fail
        refine HNX.out.mono ?_
        rintro e w3 ⟨hb3, s, rfl, hs⟩
        obtain ⟨sa, sc, rfl⟩ := ownI_shape hs
        generalize (onUp c.on 8).length = sn at *
        unfold ChV
        have hb4 : Below w3.heap.size w3 (w3.alloc (.cells #[.int .u64 c.off, .int .i64 c.bs.length, .bool c.fin, .slice sa sn sc, .bool c.held] 32)) := (Below.refl _ _).alloc (Nat.le_refl _) _
        have hb34 := hb3.trans (hb4.mono hb3.size)
        have HB4 := hid hb34
        replace b2 := cell_kept hb34 b2
        clear hb3 hb4 hb34 hs HNX
        go_wp2_with fail
        refine (sent_G (H2.out.kept HB4.out) hg pa c.off).mono ?_
        rintro e w5 ⟨⟨bb, rfl⟩, hA⟩
        have HA := hid (hA.from_ (HBW.out.trans (HB4.out.mono HBW.out.size)))
        clear hA
        go_wp2_with fail
        refine bodyPost_end (results_none Try.results21 _ _ _) rfl ?_
        exact ⟨rfl, HA.out⟩
    · go_wp2_with fail
      refine bodyPost_end (results_none Try.results21 _ _ _) rfl ?_
      exact ⟨rfl, (pgans_below H2.out hg (Below.refl _ _)).from_ HBW.out⟩

/-- What a Write leaves that took so many bytes. -/
structure Wg (F F' : Sb) (bs : List (BitVec 8)) (n : Nat) : Prop where
  room : F'.room = F.room
  mss : F'.mss = F.mss
  closed : F'.closed = F.closed
  acked : F'.acked = F.acked
  end_ : F'.end_ = F.end_ + n
  gs : F'.Gs
  tri : ∃ T, F'.tri = F.tri ++ T ∧ (∀ x ∈ T, x.2.2 = false ∧ x.2.1 ≠ []) ∧ (T.map fun x => x.2.1).flatten = bs.take n
def WgAns (w : World) (p : Nat) (F : Sb) (S : Nat → Prop) (bs : List (BitVec 8)) (n : Nat) (w' : World) : Prop := ∃ F', Bf w' p F' (grew S w w') ∧ Fr S w w' ∧ Wg F F' bs n
/-- The bytes that a Write cuts, chunk by chunk. -/
theorem cutCks_tri (m g : Nat) (hm : 1 ≤ m) : ∀ (t o : Nat) (e : Int) (bs : List (BitVec 8)), bs.length ≤ t * m → (∀ x ∈ (cutCks m g t o e bs).map Ck.tri, x.2.2 = false ∧ x.2.1 ≠ []) ∧ (((cutCks m g t o e bs).map Ck.tri).map fun x => x.2.1).flatten = bs
  | 0, o, e, bs, h => by
    have : bs = [] := List.eq_nil_of_length_eq_zero (by simpa using h)
    subst this
    exact ⟨fun x hx => by simp [cutCks] at hx, rfl⟩
  | t + 1, o, e, bs, h => by
    by_cases hb : bs = []
    · subst hb
      exact ⟨fun x hx => by simp [cutCks] at hx, by simp [cutCks]⟩
    · have hp : 0 < bs.length := List.length_pos_iff.2 hb
      obtain ⟨ih1, ih2⟩ := cutCks_tri m g hm t (o + (bs.take m).length) (e + (bs.take m).length) (bs.drop m) (by rw [Nat.succ_mul] at h; simp; omega)
      rw [cutCks, if_neg hb]
      refine ⟨fun x hx => ?_, ?_⟩
      · rw [List.map_cons] at hx
        rcases List.mem_cons.1 hx with rfl | hx
        · refine ⟨rfl, ?_⟩
          show bs.take m ≠ []
          intro e
          have := congrArg List.length e
          rw [List.length_take, List.length_nil] at this
          omega
        · exact ih1 x hx
      · rw [List.map_cons, List.map_cons, List.flatten_cons, ih2]
        show bs.take m ++ bs.drop m = bs
        exact List.take_append_drop m bs
/-- Write of any stream. -/
def Sb.takesG (F : Sb) (N : Nat) : Nat := if F.closed = true then 0 else F.takes N
theorem write_G {w : World} {p : Nat} {F : Sb} {S : Nat → Prop} (h : Bf w p F S) (hg : F.Gs) {ax : Option Addr} {bs : List (BitVec 8)} (hB : BytesAt w ax bs) (N capx : Nat) (hN : bs.length = N) (hcx : N ≤ capx) (hNm : N ≤ 140737488355328) (hz : ax = none → capx = 0) (n : Nat) (hn : F.takesG N = n) :
    Calls Try.prog 11 #[.pointer (some ⟨p, 0, none⟩), .slice ax N capx] w fun e w' => e = .returned (.int .i64 n) ∧ WgAns w p F S bs n w' := by
  have hnone : ∀ w', Below w.heap.size w w' → WgAns w p F S bs 0 w' := fun w' hb =>
    ⟨F, (h.kept hb).wider (fun _ hx => .inl hx) (grew_lt h.lt hb.size), Fr.of_below hb (Nat.le_refl _), ⟨rfl, rfl, rfl, rfl, by simp, hg, [], by simp, fun x hx => by simp at hx, by simp⟩⟩
  unfold Sb.takesG at hn
  by_cases hc : F.closed = true
  · rw [if_pos hc] at hn
    subst hn
    have h' := h
    obtain ⟨a, cap, hA⟩ := h'
    refine (write_no hA.sb.r hc _).mono ?_
    rintro e w' ⟨rfl, rfl⟩
    exact ⟨rfl, hnone _ (Below.refl _ _)⟩
  · rw [if_neg hc] at hn
    have hc : F.closed = false := by simpa using hc
    have ha := hg.opn hc
    have hnN : n ≤ N := by unfold Sb.takes at hn; omega
    obtain ⟨a, cap, h⟩ := h
    refine (write_yes h.sb hc ha hB N capx hN hcx hNm hz (fun d hd g o e => h.lt g (h.sy d hd g o e)) (fun g o e => h.lt g (h.sa g o e)) n hn).mono ?_
    rintro e w' ⟨rfl, hA⟩
    refine ⟨rfl, ?_⟩
    rcases hA with ⟨rfl, hb⟩ | ⟨w1, m, g, t, a', cap', hn0, hb1, hm, hg', ht, hC⟩
    · exact hnone w' hb
    · have hm0 : 1 ≤ m := by have := h.sb.r.ok.m0; omega
      have hbl : (bs.take n).length = n := by rw [List.length_take]; omega
      have hsz := hb1.size
      have hfs := hC.fr.size
      have htri := cutCks_tri m g hm0 t 0 F.end_ (bs.take n) (by omega)
      have hee : (F.cutT m g 0 (bs.take n) t).end_ = F.end_ + n := by
        show F.end_ + _ = _
        rw [hbl]
        have : min (t * m) n = n := by omega
        rw [this]
      refine ⟨_, ⟨a', cap', hC.sb, .inl h.sp, fun g' o' e => ?_, fun c hc' g' o' e => ?_, grew_lt h.lt (Nat.le_trans hsz hfs)⟩, ?_, ⟨rfl, rfl, rfl, rfl, hee, ⟨fun c1 => ?_, fun _ => ?_⟩, _, ?_, htri.1, htri.2⟩⟩
      · rcases hC.ap g' o' e with ⟨o, e'⟩ | e'
        · exact .inl (h.sa g' o e')
        · refine .inr ⟨by omega, ?_⟩
          rcases hC.sb.own with e2 | ⟨g2, o2, arr, e2, hg2, _⟩
          · have hlc : (F.L ++ cutCks m g t 0 F.end_ (bs.take n)).length ≤ cap' := hC.sb.r.lc
            have hpr := congrArg List.length (cutCks_prs m g hm0 t 0 F.end_ (bs.take n) (by omega))
            rw [hbl, cutA_step hm0 _ hn0, List.length_map, List.length_cons] at hpr
            rw [List.length_append] at hlc
            omega
          · rw [e] at e2
            cases e2
            exact (Array.getElem?_eq_some_iff.1 hg2).1
      · have hc2 : c ∈ F.L ++ cutCks m g t 0 F.end_ (bs.take n) := hc'
        rcases List.mem_append.1 hc2 with h1 | h1
        · exact .inl (h.sy c h1 g' o' e)
        · obtain ⟨o2, e2⟩ := cutCks_a m g t _ _ _ c h1
          have hl := hC.lt c hc' g' o' e
          rw [e] at e2
          cases e2
          exact .inr ⟨hg', by omega⟩
      · exact ((Fr.of_below (S := S) hb1 (Nat.le_refl _)).trans hC.fr (fun x hx => by
          rcases hx with rfl | ⟨o, e⟩
          · exact .inl h.sp
          · exact .inl (h.sa x o e)))
      · have c1' : F.closed = true := c1
        rw [hc] at c1'
        cases c1'
      · rw [hee]
        show F.acked ≤ _
        omega
      · show (F.L ++ _).map _ = F.L.map _ ++ _
        rw [List.map_append]
end Go.Proofs.Ytnohammflhadpaa
