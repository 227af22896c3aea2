import Derived.Test.YtnohammflhadpaaSb28
import Derived.Deep.CutRange
namespace Go.Proofs.Ytnohammflhadpaa
open Go.RowKit Go.Maps Go.Sort
set_option maxRecDepth 100000

/-- A call of a script, as the laws' Op holds it. -/
structure OpQ where
  kind : Int
  other : Bool
  path : Int
  off : Int
  rel : Bool
  edge : Int
  n : Int
  data : Value
theorem PlAns.from_ {w wc w' : World} {p : Nat} {F : Sb} {S : Nat → Prop} (hb : Below w.heap.size w wc) (h : PlAns wc p F S w') : PlAns w p F S w' := by
  obtain ⟨F', h1, h2, h3⟩ := h
  refine ⟨F', h1.wider (fun x hx => ?_) (fun x hx => ?_), (Fr.of_below hb (Nat.le_refl _)).trans h2 (fun x hx => .inl hx), h3⟩
  · rcases hx with hx | hx
    · exact .inl hx
    · exact .inr ⟨Nat.le_trans hb.size hx.1, hx.2⟩
  · rcases hx with hx | hx
    · exact h1.lt x (.inl hx)
    · exact hx.2
def OpQ.cells (o : OpQ) : List Value := [.int .i64 o.kind, .bool o.other, .int .i64 o.path, .int .u64 o.off, .bool o.rel, .int .u64 o.edge, .int .i64 o.n, o.data]
abbrev toKs (W : World) (p : Nat) (F : Sb) : Prop := ∀ (d : Nat) (os : Array Obj), Calls Try.prog 20 #[.pointer (some ⟨p, 0, none⟩)] (grow (redrawn W d) os) fun e w'' => e = .returned (.int .u64 F.acked) ∧ ∃ q : Regrown, w'' = grow (redrawn W q.d) q.os
set_option maxHeartbeats 4000000 in
theorem play_open {w : World} {p : Nat} {F : Sb} {S : Nat → Prop} (h : Bf w p F S) (hc : F.closed = false) (ha : F.acked ≤ F.end_) (k : Int) (ot : Bool) (pa off : Int) (rel : Bool) (ed n : Int) (da : Value) (hE0 : 0 ≤ ed) (hE1 : ed ≤ 18446744073709551615) (hk : k ≠ 2) :
    Calls Try.prog 21 #[.pointer (some ⟨p, 0, none⟩), .agg #[.int .i64 k, .bool ot, .int .i64 pa, .int .u64 off, .bool rel, .int .u64 ed, .int .i64 n, da]] w fun e w' => e = .returned (.tuple #[]) ∧ PlAns w p F S w' := by
  have HH := hid h
  have hbx : Below w.heap.size w (w.alloc (.cells #[.int .i64 k, .bool ot, .int .i64 pa, .int .u64 off, .bool rel, .int .u64 ed, .int .i64 n, da] 43)) := (Below.refl _ _).alloc (Nat.le_refl _) _
  have HBX := hid hbx
  have hR := Row.new w [.int .i64 k, .bool ot, .int .i64 pa, .int .u64 off, .bool rel, .int .u64 ed, .int .i64 n, da] 43
  have H1 := hid (h.kept hbx)
  have b0 := hR.cell 0 _ rfl
  have b2 := hR.cell 2 _ rfl
  have b3 := hR.cell 3 _ rfl
  have b4 := hR.cell 4 _ rfl
  have b5 := hR.cell 5 _ rfl
  clear h hbx hR
  go_enter Try.func21, Try.ntmps21
  go_upto_if 10 with fail
  generalize w.alloc (.cells #[.int .i64 k, .bool ot, .int .i64 pa, .int .u64 off, .bool rel, .int .u64 ed, .int .i64 n, da] 43) = W at *
  have hK : Hid (toKs W p F) := by
    obtain ⟨a, cap, hA⟩ := H1.out
    exact toK (n := 20) (args := #[.pointer (some ⟨p, 0, none⟩)]) (v := .int .u64 F.acked) (w := W) (fun w' hb => (acked_any (hA.sb.r.kept hb)).mono (by rintro e w'' ⟨rfl, rfl⟩; exact ⟨rfl, Below.refl _ _⟩))
  go_cut [4] from 4 to 15 (fun s4 wx => ∃ X : Int, s4 = .int .u64 X ∧ Below W.heap.size W wx)
  case first =>
    cases rel with
    | false =>
      go_wp2_with fail
      go_meet
      exact ⟨off, rfl, Below.refl _ _⟩
    | true =>
      have k3 := cell_regrown b3
      go_upto_region 3 with fail
      refine wp_region_quiet_below (by kernel_rfl) (by decide +kernel) ?_
      repeat (quiet_step (first | (go_at_call 20; exact hK.out _ _)))
      refine wpQuiet_nil ?_
      intro _ hw'
      obtain ⟨⟨dq, osq⟩, hw''⟩ := hw'
      subst hw''
      go_wp2_with fail
      go_meet
      exact ⟨_, rfl, below_regrown W dq osq⟩
  case rest =>
    obtain ⟨X, rfl, hbc⟩ := hcut
    have H2 := hid (H1.out.kept hbc)
    have HBW := hid (HBX.out.trans (hbc.mono HBX.out.size))
    replace b0 := cell_kept hbc b0
    replace b2 := cell_kept hbc b2
    replace b3 := cell_kept hbc b3
    replace b5 := cell_kept hbc b5
    clear hbc H1 HBX b4 hK HH
    by_cases k3 : k = 3
    · subst k3
      go_wp2_with fail
      refine (ack_B H2.out hc ha X ed hE0 hE1).mono ?_
      rintro e w3 ⟨⟨bb, rfl⟩, hA⟩
      have HA := hid (hA.from_ HBW.out)
      clear hA
      go_wp2_with fail
      refine bodyPost_end (results_none Try.results21 _ _ _) rfl ?_
      exact ⟨rfl, HA.out⟩
    by_cases k6 : k = 6
    · subst k6
      go_wp2_with fail
      refine (sent_B H2.out ha pa X).mono ?_
      rintro e w3 ⟨⟨bb, rfl⟩, hA⟩
      have HA := hid (hA.from_ HBW.out)
      clear hA
      go_wp2_with fail
      refine bodyPost_end (results_none Try.results21 _ _ _) rfl ?_
      exact ⟨rfl, HA.out⟩
    by_cases k7 : k = 7
    · subst k7
      go_wp2_with fail
      refine (lost_B H2.out ha pa X).mono ?_
      rintro e w3 ⟨⟨bb, rfl⟩, hA⟩
      have HA := hid (hA.from_ HBW.out)
      clear hA
      go_wp2_with fail
      refine bodyPost_end (results_none Try.results21 _ _ _) rfl ?_
      exact ⟨rfl, HA.out⟩
    by_cases k8 : k = 8
    · subst k8
      go_wp2_with fail
      refine (held_B H2.out ha pa X).mono ?_
      rintro e w3 ⟨⟨bb, rfl⟩, hA⟩
      have HA := hid (hA.from_ HBW.out)
      clear hA
      go_wp2_with fail
      refine bodyPost_end (results_none Try.results21 _ _ _) rfl ?_
      exact ⟨rfl, HA.out⟩
    by_cases k11 : k = 11
    · subst k11
      have HNX : Hid (Calls Try.prog 23 #[.pointer (some ⟨p, 0, none⟩), .int .i64 pa] wc fun e w' => LowAns wc (F.nxt pa) e w') := by
        obtain ⟨a, cap, hA⟩ := H2.out
        exact next_any hA.sb.r pa
      cases hx : F.nxt pa with
      | none =>
        rw [hx] at HNX
        go_wp2_with fail
        refine HNX.out.mono ?_
        rintro e w3 ⟨hb3, rfl⟩
        have HB3 := hid hb3
        clear hb3
        have hb4 : Below w3.heap.size w3 (w3.alloc (.cells #[.int .u64 0, .int .i64 0, .bool false, .slice none 0 0, .bool false] 32)) := (Below.refl _ _).alloc (Nat.le_refl _) _
        have HB4 := hid (HB3.out.trans (hb4.mono HB3.out.size))
        clear hb4
        go_wp2_with fail
        refine bodyPost_end (results_none Try.results21 _ _ _) rfl ?_
        exact ⟨rfl, (plans_below H2.out ha HB4.out).from_ HBW.out⟩
      | some c =>
        rw [hx] at HNX
        clear hx
        go_wp2_with fail
        refine HNX.out.mono ?_
        rintro e w3 ⟨hb3, s, rfl, hs⟩
        obtain ⟨sa, sc, rfl⟩ := ownI_shape hs
        generalize (onUp c.on 8).length = sn at *
        unfold ChV
        have hb4 : Below w3.heap.size w3 (w3.alloc (.cells #[.int .u64 c.off, .int .i64 c.bs.length, .bool c.fin, .slice sa sn sc, .bool c.held] 32)) := (Below.refl _ _).alloc (Nat.le_refl _) _
        have hb34 := hb3.trans (hb4.mono hb3.size)
        have HB4 := hid hb34
        replace b2 := cell_kept hb34 b2
        clear hb3 hb4 hb34 hs HNX
        go_wp2_with fail
        refine (sent_B (H2.out.kept HB4.out) ha pa c.off).mono ?_
        rintro e w5 ⟨⟨bb, rfl⟩, hA⟩
        have HA := hid (hA.from_ (HBW.out.trans (HB4.out.mono HBW.out.size)))
        clear hA
        go_wp2_with fail
        refine bodyPost_end (results_none Try.results21 _ _ _) rfl ?_
        exact ⟨rfl, HA.out⟩
    · go_wp2_with fail
      refine bodyPost_end (results_none Try.results21 _ _ _) rfl ?_
      exact ⟨rfl, (plans_below H2.out ha (Below.refl _ _)).from_ HBW.out⟩
end Go.Proofs.Ytnohammflhadpaa
