import Derived.Test.YtnohammflhadpaaSb8
import Derived.Laws.Closers25b
namespace Go.Proofs.Ytnohammflhadpaa
open Go.RowKit Go.Maps Go.Sort
set_option maxRecDepth 100000

theorem bits_u8 (op : BinOp) (a b : Int) : 0 ≤ bits op .u8 a b ∧ bits op .u8 a b ≤ 255 := bits_within op .u8 a b
set_option maxHeartbeats 2000000 in
theorem landed_none {w : World} {p : Nat} {F : Sb} {a : Option Addr} {cap : Nat} (h : SbR w p F a cap) (x off : Int) (hn : ∀ k, ¬ F.find off k) :
    Calls Try.prog 75 #[.pointer (some ⟨p, 0, none⟩), .int .i64 x, .int .u64 off] w fun e w' => e = .returned (.pointer none) ∧ Below w.heap.size w w' := by
  have HA := hid (at_none h off hn)
  have HO := fun w => hid (only_any w x)
  clear h hn
  go_enter Try.func75, Try.ntmps75
  go_wp2_with (first | (go_at_call 40; refine HA.out.mono ?_; rintro e w1 ⟨rfl, hb1⟩; have HB1 := hid hb1; clear hb1) | (go_at_call 41; refine (HO _).out.mono ?_; rintro e w2 ⟨rfl, rfl⟩))
  go_ret
  exact ⟨rfl, HB1.out⟩
/-- A chunk that is not under way there. -/
theorem SbW.ckc {w : World} {p : Nat} {F : Sb} {g o cap : Nat} (h : SbR w p F (some ⟨g, o, none⟩) cap) {k : Nat} (hk : k < F.L.length) : CkC w g (o + k * 6) F.L[k] := by
  obtain ⟨g', o', e, hC⟩ := h.ck.ckc hk
  cases e
  exact hC
set_option maxHeartbeats 2000000 in
theorem landed_off {w : World} {p : Nat} {F : Sb} {g o cap : Nat} (h : SbR w p F (some ⟨g, o, none⟩) cap) (x : Int) {off : Int} {k : Nat} (hk : k < F.L.length) (he : F.L[k].off = off) (hz : bits BinOp.and IntKind.u8 F.L[k].on (bit x) = 0) :
    Calls Try.prog 75 #[.pointer (some ⟨p, 0, none⟩), .int .i64 x, .int .u64 off] w fun e w' => e = .returned (.pointer none) ∧ Below w.heap.size w w' := by
  have HA := hid (at_some h ⟨hk, he⟩)
  have HO := fun w => hid (only_any w x)
  have HQ : Hid (∀ w1, Below w.heap.size w w1 → w1.cell? ⟨g, o + k * 6 + 3, none⟩ = some (.int .u8 F.L[k].on)) := fun w1 hb => (SbW.ckc (h.kept hb) hk).q3
  clear h he
  generalize bit x = bi at *
  generalize F.L[k].on = on at *
  go_enter Try.func75, Try.ntmps75
  go_wp2_with (first | (go_at_call 40; refine HA.out.mono ?_; rintro e w1 ⟨rfl, hb1⟩; have r3 := HQ.out w1 hb1; have HB1 := hid hb1; clear hb1) | (go_at_call 41; refine (HO _).out.mono ?_; rintro e w2 ⟨rfl, rfl⟩))
  go_ret
  exact ⟨rfl, HB1.out⟩
/-- A chunk that is not under way there any more. -/
def Ck.off1 (c : Ck) (b : Int) : Ck := { c with on := bits BinOp.andNot IntKind.u8 c.on b }
set_option maxHeartbeats 2000000 in
theorem landed_on {w : World} {p : Nat} {F : Sb} {g o cap : Nat} (h : SbW w p F (some ⟨g, o, none⟩) cap) (x : Int) {off : Int} {k : Nat} (hk : k < F.L.length) (he : F.L[k].off = off) (hz : ¬ bits BinOp.and IntKind.u8 F.L[k].on (bit x) = 0) :
    Calls Try.prog 75 #[.pointer (some ⟨p, 0, none⟩), .int .i64 x, .int .u64 off] w fun e w' => e = .returned (.pointer (some ⟨g, o + k * 6, none⟩)) ∧ SbW w' p (F.put k (F.L[k].off1 (bit x))) (some ⟨g, o, none⟩) cap ∧ Fr (fun y => y = g) w w' := by
  have HA := hid (at_some h.r ⟨hk, he⟩)
  have HO := fun w => hid (only_any w x)
  have HQ : Hid (∀ w1, Below w.heap.size w w1 → w1.cell? ⟨g, o + k * 6 + 3, none⟩ = some (.int .u8 F.L[k].on) ∧ w1.frozen? ⟨g, o + k * 6 + 3, none⟩ = false) := fun w1 hb => ⟨(SbW.ckc (h.r.kept hb) hk).q3, by
    obtain ⟨g', o', arr, e, hg, _⟩ := (h.kept hb).blk hk
    cases e
    simp [World.frozen?, hg]⟩
  have HP : Hid (∀ w1, Below w.heap.size w w1 → SbW (w1.setCell ⟨g, o + k * 6 + 3, none⟩ (.int .u8 (bits BinOp.andNot IntKind.u8 F.L[k].on (bit x)))) p (F.put k (F.L[k].off1 (bit x))) (some ⟨g, o, none⟩) cap ∧ Fr (fun y => y = g) w (w1.setCell ⟨g, o + k * 6 + 3, none⟩ (.int .u8 (bits BinOp.andNot IntKind.u8 F.L[k].on (bit x))))) := fun w1 hb => by
    have h1 := (h.kept hb).put hk (c := F.L[k].off1 (bit x)) (j := 3) (v := .int .u8 (bits BinOp.andNot IntKind.u8 F.L[k].on (bit x))) (by decide) rfl ⟨rfl, rfl⟩ (Sb.put_ok h.r.ok hk ⟨rfl, rfl, rfl, rfl⟩ (bits_u8 BinOp.andNot F.L[k].on (bit x)).1 (bits_u8 BinOp.andNot F.L[k].on (bit x)).2)
    exact ⟨h1.1, (Fr.of_below hb (Nat.le_refl _)).trans h1.2 (fun x hx => .inl hx)⟩
  clear h he
  generalize bit x = bi at *
  go_enter Try.func75, Try.ntmps75
  go_wp2_with (first | (go_at_call 40; refine HA.out.mono ?_; rintro e w1 ⟨rfl, hb1⟩; obtain ⟨r3, r4⟩ := HQ.out w1 hb1; have HP1 := hid (HP.out w1 hb1); clear hb1) | (go_at_call 41; refine (HO _).out.mono ?_; rintro e w2 ⟨rfl, rfl⟩))
  go_ret
  exact ⟨rfl, HP1.out.1, HP1.out.2⟩
/-- Is there a chunk at an offset that is under way on a path? -/
def Sb.isOn (F : Sb) (x off : Int) (k : Nat) : Prop := ∃ h : k < F.L.length, F.L[k].off = off ∧ onB F.L[k].on x = true
theorem onB_iff {on x : Int} : onB on x = true ↔ ¬ bits BinOp.and IntKind.u8 on (bit x) = 0 := by unfold onB; simp
theorem landed_no {w : World} {p : Nat} {F : Sb} {a : Option Addr} {cap : Nat} (h : SbR w p F a cap) (x off : Int) (hn : ∀ k, ¬ F.isOn x off k) :
    Calls Try.prog 75 #[.pointer (some ⟨p, 0, none⟩), .int .i64 x, .int .u64 off] w fun e w' => e = .returned (.pointer none) ∧ Below w.heap.size w w' := by
  by_cases hex : ∃ k, F.find off k
  · obtain ⟨k, hk, he⟩ := hex
    obtain ⟨g, o, e, _⟩ := h.ck.ckc hk
    subst e
    refine landed_off h x hk he ?_
    apply Classical.byContradiction
    intro hc
    exact hn k ⟨hk, he, onB_iff.2 hc⟩
  · exact landed_none h x off (fun k hk => hex ⟨k, hk⟩)
set_option maxHeartbeats 1000000 in
theorem lost_no {w : World} {p : Nat} {F : Sb} {a : Option Addr} {cap : Nat} (h : SbR w p F a cap) (x off : Int) (hn : ∀ k, ¬ F.isOn x off k) :
    Calls Try.prog 46 #[.pointer (some ⟨p, 0, none⟩), .int .i64 x, .int .u64 off] w fun e w' => e = .returned (.bool false) ∧ Below w.heap.size w w' := by
  have HA := hid (landed_no h x off hn)
  clear h hn
  go_enter Try.func46, Try.ntmps46
  go_wp2_with (go_at_call 75; refine HA.out.mono ?_; rintro e w1 ⟨rfl, hb1⟩; have HB1 := hid hb1; clear hb1)
  go_ret
  exact ⟨rfl, HB1.out⟩
set_option maxHeartbeats 1000000 in
theorem held_no {w : World} {p : Nat} {F : Sb} {a : Option Addr} {cap : Nat} (h : SbR w p F a cap) (x off : Int) (hn : ∀ k, ¬ F.isOn x off k) :
    Calls Try.prog 47 #[.pointer (some ⟨p, 0, none⟩), .int .i64 x, .int .u64 off] w fun e w' => e = .returned (.bool false) ∧ Below w.heap.size w w' := by
  have HA := hid (landed_no h x off hn)
  clear h hn
  go_enter Try.func47, Try.ntmps47
  go_wp2_with (go_at_call 75; refine HA.out.mono ?_; rintro e w1 ⟨rfl, hb1⟩; have HB1 := hid hb1; clear hb1)
  go_ret
  exact ⟨rfl, HB1.out⟩
set_option maxHeartbeats 1000000 in
theorem lost_on {w : World} {p : Nat} {F : Sb} {g o cap : Nat} (h : SbW w p F (some ⟨g, o, none⟩) cap) (x : Int) {off : Int} {k : Nat} (hk : k < F.L.length) (he : F.L[k].off = off) (hz : onB F.L[k].on x = true) :
    Calls Try.prog 46 #[.pointer (some ⟨p, 0, none⟩), .int .i64 x, .int .u64 off] w fun e w' => e = .returned (.bool true) ∧ SbW w' p (F.put k (F.L[k].off1 (bit x))) (some ⟨g, o, none⟩) cap ∧ Fr (fun y => y = g) w w' := by
  have HA := hid (landed_on h x hk he (onB_iff.1 hz))
  clear h hz
  go_enter Try.func46, Try.ntmps46
  go_wp2_with (go_at_call 75; refine HA.out.mono ?_; rintro e w1 ⟨rfl, h1, h2⟩; have HB1 := hid (And.intro h1 h2); clear h1 h2)
  go_ret
  exact ⟨rfl, HB1.out.1, HB1.out.2⟩
def Ck.hold (c : Ck) (b : Int) : Ck := { c.off1 b with held := true }
theorem Sb.put_put {F : Sb} {k : Nat} {c d : Ck} : (F.put k c).put k d = F.put k d := by unfold Sb.put; simp
theorem Sb.put_at {F : Sb} {k : Nat} (hk : k < F.L.length) {c : Ck} : ∃ h : k < (F.put k c).L.length, (F.put k c).L[k] = c := by
  have h : k < (F.L.set k c).length := by simpa using hk
  exact ⟨h, by show (F.L.set k c)[k] = c; simp⟩
set_option maxHeartbeats 1000000 in
theorem held_on {w : World} {p : Nat} {F : Sb} {g o cap : Nat} (h : SbW w p F (some ⟨g, o, none⟩) cap) (x : Int) {off : Int} {k : Nat} (hk : k < F.L.length) (he : F.L[k].off = off) (hz : onB F.L[k].on x = true) :
    Calls Try.prog 47 #[.pointer (some ⟨p, 0, none⟩), .int .i64 x, .int .u64 off] w fun e w' => e = .returned (.bool true) ∧ SbW w' p (F.put k (F.L[k].hold (bit x))) (some ⟨g, o, none⟩) cap ∧ Fr (fun y => y = g) w w' := by
  have HA := hid (landed_on h x hk he (onB_iff.1 hz))
  have HP : Hid (∀ w1, SbW w1 p (F.put k (F.L[k].off1 (bit x))) (some ⟨g, o, none⟩) cap → Fr (fun y => y = g) w w1 → (∃ b, w1.cell? ⟨g, o + k * 6 + 5, none⟩ = some (.bool b)) ∧ w1.frozen? ⟨g, o + k * 6 + 5, none⟩ = false ∧ SbW (w1.setCell ⟨g, o + k * 6 + 5, none⟩ (.bool true)) p (F.put k (F.L[k].hold (bit x))) (some ⟨g, o, none⟩) cap ∧ Fr (fun y => y = g) w (w1.setCell ⟨g, o + k * 6 + 5, none⟩ (.bool true))) := fun w1 h1 h2 => by
    obtain ⟨hk', e1⟩ := Sb.put_at (c := F.L[k].off1 (bit x)) hk
    have hc := (SbW.ckc h1.r hk').q5
    have h3 := h1.put hk' (c := F.L[k].hold (bit x)) (j := 5) (v := .bool true) (by decide) (by rw [e1]; rfl) (by rw [e1]; exact ⟨rfl, rfl⟩) (Sb.put_ok h1.r.ok hk' (by rw [e1]; exact ⟨rfl, rfl, rfl, rfl⟩) (bits_u8 BinOp.andNot F.L[k].on (bit x)).1 (bits_u8 BinOp.andNot F.L[k].on (bit x)).2)
    rw [Sb.put_put] at h3
    refine ⟨⟨_, hc⟩, ?_, h3.1, h2.trans h3.2 (fun x hx => .inl hx)⟩
    obtain ⟨g', o', arr, e, hg, _⟩ := h1.blk hk'
    cases e
    simp [World.frozen?, hg]
  clear h hz
  generalize F.L[k].hold (bit x) = c2 at *
  generalize F.L[k].off1 (bit x) = c1 at *
  go_enter Try.func47, Try.ntmps47
  go_wp2_with (go_at_call 75; refine HA.out.mono ?_; rintro e w1 ⟨rfl, h1, h2⟩; obtain ⟨⟨b5, r5⟩, r6, h3, h4⟩ := HP.out w1 h1 h2; have HB1 := hid (And.intro h3 h4); clear h1 h2 h3 h4)
  go_ret
  exact ⟨rfl, HB1.out.1, HB1.out.2⟩
end Go.Proofs.Ytnohammflhadpaa
