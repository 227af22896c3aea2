import Derived.Test.YtnohammflhadpaaSb34
import Derived.Test.YtnohammflhadpaaSb32
namespace Go.Proofs.Ytnohammflhadpaa
open Go.RowKit Go.Maps Go.Sort
set_option maxRecDepth 100000

theorem not_true_of {b : Bool} (h : b = false) : ¬ b = true := by rw [h]; decide
theorem rem_nat (k : Nat) : Int.tmod (k : Int) 8 = ((k % 8 : Nat) : Int) := (Int.ofNat_tmod k 8).symm
/-- A stream, and a chunk that was handed out, in a box of its own. -/
structure AfS (w : World) (p bx : Nat) (G : Sb) (oo : Int) (fi : Bool) (W : World) : Prop where
  bf : ∃ S, Bf W p G S ∧ (∀ y, S y → w.heap.size ≤ y) ∧ ¬ S bx
  bel : Below w.heap.size w W
  c0 : W.cell? ⟨bx, 0, none⟩ = some (.int .u64 oo)
  c2 : W.cell? ⟨bx, 2, none⟩ = some (.bool fi)
section
variable {w W W' : World} {p bx : Nat} {G : Sb} {oo : Int} {fi : Bool}
theorem AfS.kept (h : AfS w p bx G oo fi W) (hb : Below W.heap.size W W') : AfS w p bx G oo fi W' := by
  obtain ⟨S, h1, h2, h3⟩ := h.bf
  exact ⟨⟨S, h1.kept hb, h2, h3⟩, h.bel.trans (hb.mono h.bel.size), cell_kept hb h.c0, cell_kept hb h.c2⟩
theorem AfS.turn (h : AfS w p bx G oo fi W) {G' : Sb} {S : Nat → Prop} (hg : ∀ y, S y → w.heap.size ≤ y) (hn : ¬ S bx) (h1 : Bf W' p G' (grew S W W')) (h2 : Fr S W W') : AfS w p bx G' oo fi W' := by
  have hl : bx < W.heap.size := World.block_lt_of_cell? W _ h.c0
  have hs := h.bel.size
  refine ⟨⟨_, h1, fun y hy => ?_, fun hy => ?_⟩, h.bel.trans (h2.below hg hs), h2.cell h.c0 hn, h2.cell h.c2 hn⟩
  · rcases hy with hy | hy
    · exact hg y hy
    · omega
  · rcases hy with hy | hy
    · exact hn hy
    · omega
theorem AfS.end_ (h : AfS w p bx G oo fi W) : Calls Try.prog 15 #[.pointer (some ⟨p, 0, none⟩)] W fun e w' => e = .returned (.int .u64 G.end_) ∧ w' = W := by
  obtain ⟨S, ⟨a, cap, h1⟩, _⟩ := h.bf
  exact end_any h1.sb.r
theorem AfS.high (h : AfS w p bx G oo fi W) : Calls Try.prog 16 #[.pointer (some ⟨p, 0, none⟩)] W fun e w' => e = .returned (.int .u64 G.high) ∧ w' = W := by
  obtain ⟨S, ⟨a, cap, h1⟩, _⟩ := h.bf
  exact high_any h1.sb.r
theorem AfS.acked (h : AfS w p bx G oo fi W) : Calls Try.prog 20 #[.pointer (some ⟨p, 0, none⟩)] W fun e w' => e = .returned (.int .u64 G.acked) ∧ w' = W := by
  obtain ⟨S, ⟨a, cap, h1⟩, _⟩ := h.bf
  exact acked_any h1.sb.r
theorem AfS.done (h : AfS w p bx G oo fi W) : Calls Try.prog 13 #[.pointer (some ⟨p, 0, none⟩)] W fun e w' => e = .returned (.bool G.done) ∧ Below W.heap.size W w' := by
  obtain ⟨S, ⟨a, cap, h1⟩, _⟩ := h.bf
  refine (done_any h1.sb.r).mono ?_
  rintro e w' ⟨rfl, q, rfl⟩
  exact ⟨rfl, below_drewN (Below.refl _ _) q⟩
theorem AfS.chunks (h : AfS w p bx G oo fi W) : Calls Try.prog 19 #[.pointer (some ⟨p, 0, none⟩)] W fun e w' => ∃ a c, e = .returned (.slice a G.L.length c) ∧ Below W.heap.size W w' := by
  obtain ⟨S, ⟨a, cap, h1⟩, _⟩ := h.bf
  refine (chunks_any h1.sb.r).mono ?_
  rintro e w' ⟨v, X, rfl, ho, _, hb⟩
  obtain ⟨a, c, rfl, _⟩ := own_rd ho
  exact ⟨a, c, rfl, hb⟩
theorem AfS.sent (h : AfS w p bx G oo fi W) {k C : Nat} (he : En G k C) (hk : k < G.L.length) (ho : G.L[k].off = oo) : Calls Try.prog 17 #[.pointer (some ⟨p, 0, none⟩), .int .i64 ((k % 8 : Nat) : Int), .int .u64 oo] W fun e w' => e = .returned (.bool true) ∧ AfS w p bx (G.sent k G.L[k] (bit ((k % 8 : Nat) : Int))) oo fi w' := by
  obtain ⟨S, h1, h2, h3⟩ := h.bf
  subst ho
  refine (sent_X h1 ((k % 8 : Nat) : Int) hk (he.may hk (by omega))).mono ?_
  rintro e w' ⟨rfl, k1, k2⟩
  exact ⟨rfl, h.turn h2 h3 k1 k2⟩
theorem AfS.ackNo (h : AfS w p bx G oo fi W) {b : Bool} (hb : G.endOut = b) (hF : G.Fin) (v E : Int) (hv : (if b = true then G.high + 1 else G.high) < v) : Calls Try.prog 18 #[.pointer (some ⟨p, 0, none⟩), .int .u64 v, .int .u64 E] W fun e w' => e = .returned (.bool false) ∧ AfS w p bx G oo fi w' := by
  obtain ⟨S, h1, h2, h3⟩ := h.bf
  refine (ack_X_no h1 hb hF v E hv).mono ?_
  rintro e w' ⟨rfl, hb'⟩
  exact ⟨rfl, h.kept hb'⟩
theorem AfS.ackYes (h : AfS w p bx G oo fi W) {b : Bool} (hb : G.endOut = b) (hF : G.Fin) (v E : Int) (hE0 : 0 ≤ E) (hE1 : E ≤ 18446744073709551615) (hv : v ≤ (if b = true then G.high + 1 else G.high)) : Calls Try.prog 18 #[.pointer (some ⟨p, 0, none⟩), .int .u64 v, .int .u64 E] W fun e w' => e = .returned (.bool (decide (G.acked < v) || decide (G.edge < E))) ∧ ∃ n, AfS w p bx (G.acks (max G.acked v) (max G.edge E) n) oo fi w' := by
  obtain ⟨S, h1, h2, h3⟩ := h.bf
  refine (ack_X h1 hb hF v E hE0 hE1 hv).mono ?_
  rintro e w' ⟨rfl, n, k1, k2⟩
  exact ⟨rfl, n, h.turn h2 h3 k1 k2⟩
theorem AfS.ok (h : AfS w p bx G oo fi W) : G.Ok := by
  obtain ⟨S, h1, _⟩ := h.bf
  exact h1.ok
end
set_option maxHeartbeats 8000000 in
theorem ends_law {w : World} {base room mss edge b r m : Int} (h0 : 0 ≤ base) (hb : min base 4611686018427387904 = b) (hr : max 1 (min room 65536) = r) (hm : max 1 (min mss 1024) = m) {x : Wt} (hx : x.Ok w) :
    Calls Try.prog 3 #[.agg #[.int .u64 base, .int .i64 room, .int .i64 mss, .int .u64 edge], .slice x.a x.bs.length x.cap] w fun e w' => e = .returned (.bool true) ∧ Below w.heap.size w w' := by
  have hbx : Below w.heap.size w (w.alloc (.cells #[.int .u64 base, .int .i64 room, .int .i64 mss, .int .u64 edge] 24)) := (Below.refl _ _).alloc (Nat.le_refl _) _
  have hR := Row.new w [.int .u64 base, .int .i64 room, .int .i64 mss, .int .u64 edge] 24
  have c0 := hR.cell 0 _ rfl
  have c1 := hR.cell 1 _ rfl
  have c2 := hR.cell 2 _ rfl
  have HBX := hid hbx
  have HX := hid hx
  clear hbx hR hx
  go_enter Try.func3, Try.ntmps3
  go_wp2_with fail
  refine (new_any _ h0 (by decide) (by decide) hb hr hm).mono ?_
  rintro e w1 ⟨p, rfl, hs1, hb1, hp1⟩
  have HB1 := hid (HBX.out.trans (hb1.mono HBX.out.size))
  have hpw : w.heap.size ≤ p := Nat.le_trans HBX.out.size hp1
  have HS1 := hid (bf_new hs1 rfl)
  have hbb : 0 ≤ b := by omega
  clear hs1 hb1 hp1 HBX c0 c1 c2 hb hr hm h0
  go_wp2_with fail
  refine (awake_any _).mono ?_
  rintro e w2 ⟨rfl, hb2⟩
  have HS2 := hid (HS1.out.kept hb2)
  have HB2 := hid (HB1.out.trans (hb2.mono HB1.out.size))
  clear hb2 HS1 HB1
  have HWR := hid (write_fresh HS2.out (HX.out.by_.kept HB2.out) x.bs.length x.cap rfl HX.out.lc HX.out.nm HX.out.z)
  clear HX
  go_wp2_with fail
  refine HWR.out.mono ?_
  rintro e w3 ⟨n, F, rfl, hB3, hf3, hFr⟩
  have HB3 : Hid (Below w.heap.size w w3) := HB2.out.trans (hf3.below (fun y hy => by subst hy; exact hpw) HB2.out.size)
  have HG3 : Hid (∀ y, grew (fun y => y = p) w2 w3 y → w.heap.size ≤ y) := fun y hy => by
    rcases hy with rfl | hy
    · exact hpw
    · have := HB2.out.size; omega
  have HS3 := hid hB3
  have hac : F.acked ≤ F.end_ := by rw [hFr.ac, hFr.en]; omega
  have hfew := hB3.ok.few hFr.cl hac
  have hr1 := hB3.ok.r1
  have hfro := hB3.ok.fr
  have hCn : F.L.length ≤ n := by rw [hFr.ac, hFr.en] at hfew; omega
  have hC6 : F.L.length ≤ 65536 := by omega
  have hn6 : (n : Int) ≤ 65536 := by rw [hFr.ac, hFr.en] at hfro; omega
  have HFR := hid hFr
  have HAC := hid hac
  clear hB3 hf3 hFr hfew hr1 hfro hac HS2 HB2 HWR
  generalize grew (fun y => y = p) w2 w3 = S3 at *
  go_wp2_with fail
  refine (close_B HS3.out HFR.out.cl hC6 HAC.out).mono ?_
  rintro e w4 ⟨rfl, hB4, hf4⟩
  have HB4 : Hid (Below w.heap.size w w4) := HB3.out.trans (hf4.below HG3.out HB3.out.size)
  have HG4 : Hid (∀ y, grew S3 w3 w4 y → w.heap.size ≤ y) := fun y hy => by
    rcases hy with hy | hy
    · exact HG3.out y hy
    · have := HB3.out.size; omega
  have HEN : Hid (En F.shut 0 F.L.length) := en_new hB4.ok HAC.out HFR.out.ed HFR.out.fr (fun hl => by
    have h3 := HFR.out
    rw [h3.hi, h3.en, h3.ne hl]
    simp)
  have HS4 := hid hB4
  clear hB4 hf4 HS3 HB3 HG3
  generalize grew S3 w3 w4 = S4 at *
  obtain ⟨C, hC⟩ : ∃ C, F.L.length = C := ⟨_, rfl⟩
  rw [hC] at HEN hCn
  obtain ⟨G, hG⟩ : ∃ G, F.shut = G := ⟨_, rfl⟩
  rw [hG] at HEN HS4
  clear hG hC HFR HAC hC6
  have HCL : Hid (∀ W, Below w4.heap.size w4 W → Calls Try.prog 12 #[.pointer (some ⟨p, 0, none⟩)] W fun e w' => e = .returned (.bool false) ∧ w' = W) := fun W hW => by
    obtain ⟨a, cap, hA⟩ := HS4.out.kept hW
    exact close_no hA.sb.r HEN.out.cl
  go_wp2_with fail
  refine (HCL.out _ (Below.refl _ _)).mono ?_
  rintro e w5 ⟨rfl, h5⟩
  rw [h5]
  clear h5 HCL
  have hb6 : Below w4.heap.size w4 (w4.alloc (.cells #[.int .u8 1] 5)) := (Below.refl _ _).alloc (Nat.le_refl _) _
  have HS6 := hid (HS4.out.kept hb6)
  have HB6 := hid (HB4.out.trans (hb6.mono HB4.out.size))
  have HWN : Hid (∀ v, Calls Try.prog 11 #[.pointer (some ⟨p, 0, none⟩), v] (w4.alloc (.cells #[.int .u8 1] 5)) fun e w' => e = .returned (.int .i64 0) ∧ w' = (w4.alloc (.cells #[.int .u8 1] 5))) := fun v => by
    obtain ⟨a, cap, hA⟩ := HS6.out
    exact write_no hA.sb.r HEN.out.cl v
  have HDN : Hid (Calls Try.prog 13 #[.pointer (some ⟨p, 0, none⟩)] (w4.alloc (.cells #[.int .u8 1] 5)) fun e w' => e = .returned (.bool false) ∧ ∃ q, w' = (w4.alloc (.cells #[.int .u8 1] 5)).drewN q) := by
    obtain ⟨a, cap, hA⟩ := HS6.out
    have hd : G.done = false := by
      unfold Sb.done
      rw [decide_eq_false (by have := HEN.out.ac; omega)]
      simp
    have := done_any hA.sb.r
    rw [hd] at this
    exact this
  clear hb6 HS4 HB4
  go_wp2_with fail
  refine (HWN.out _).mono ?_
  rintro e w5 ⟨rfl, h5⟩
  rw [h5]
  clear h5 HWN
  go_wp2_with fail
  refine HDN.out.mono ?_
  rintro e w7 ⟨rfl, q, h7⟩
  have hb7 : Below (w4.alloc (.cells #[.int .u8 1] 5)).heap.size (w4.alloc (.cells #[.int .u8 1] 5)) w7 := by rw [h7]; exact below_drewN (Below.refl _ _) q
  have HS7 := hid (HS6.out.kept hb7)
  have HB7 := hid (HB6.out.trans (hb7.mono HB6.out.size))
  clear h7 hb7 HS6 HB6 HDN
  go_wp2_with fail
  have hCi : (C : Int) ≤ n := by omega
  go_loopw [7] (fun s7 wr => ∃ (k : Nat) (G : Sb) (S : Nat → Prop), k ≤ C ∧ s7 = .int .i64 k ∧ Hid (Bf wr p G S) ∧ Hid (En G k C) ∧ Hid (∀ y, S y → w.heap.size ≤ y) ∧ Hid (Below w.heap.size w wr)) (fun s _ => C + 1 - (intOf s).toNat)
  case atStart => exact ⟨0, G, S4, Nat.zero_le _, rfl, HS7, HEN, HG4, HB7⟩
  case round =>
    clear HS7 HEN HG4 HB7
    obtain ⟨k, G, S, hkC, rfl, HS, HE, HG, HB⟩ := hrel
    have hkn : (k : Int) ≤ n := by omega
    obtain ⟨hkl, hlow⟩ := HE.out.low hkC
    have HWA : Hid (Calls Try.prog 14 #[.pointer (some ⟨p, 0, none⟩)] wr fun e w' => LowAns wr (some G.L[k]) e w') := by
      obtain ⟨a, cap, hA⟩ := HS.out
      have := want_any hA.sb.r
      rw [hlow] at this
      exact this
    clear hlow
    go_wp2_with fail
    refine HWA.out.mono ?_
    rintro e w8 ⟨hb8, s, rfl, hs⟩
    obtain ⟨sa, sc, rfl⟩ := ownI_shape hs
    generalize (onUp G.L[k].on 8).length = sn at *
    unfold ChV
    clear hs HWA
    have hb9 : Below w8.heap.size w8 (w8.alloc (.cells #[.int .u64 G.L[k].off, .int .i64 G.L[k].bs.length, .bool G.L[k].fin, .slice sa sn sc, .bool G.L[k].held] 32)) := (Below.refl _ _).alloc (Nat.le_refl _) _
    have hbx := Row.new w8 [.int .u64 G.L[k].off, .int .i64 G.L[k].bs.length, .bool G.L[k].fin, .slice sa sn sc, .bool G.L[k].held] 32
    have h89 := hb8.trans (hb9.mono hb8.size)
    have HS9 := hid (HS.out.kept h89)
    have HB9 := hid (HB.out.trans (h89.mono HB.out.size))
    have hbn : ¬ S w8.heap.size := fun hy => by have := HS.out.lt _ hy; have := hb8.size; omega
    have HFIN : Hid (G.L[k].fin = decide (k = C)) := HE.out.fin k hkl
    have hz9 : (w8.alloc (.cells #[.int .u64 G.L[k].off, .int .i64 G.L[k].bs.length, .bool G.L[k].fin, .slice sa sn sc, .bool G.L[k].held] 32)).heap.size = w8.heap.size + 1 := by simp
    have HBXR := hid hbx
    clear hb8 hb9 h89 HS HB hbx
    have HAF : Hid (∀ W, Below (w8.alloc (.cells #[.int .u64 G.L[k].off, .int .i64 G.L[k].bs.length, .bool G.L[k].fin, .slice sa sn sc, .bool G.L[k].held] 32)).heap.size (w8.alloc (.cells #[.int .u64 G.L[k].off, .int .i64 G.L[k].bs.length, .bool G.L[k].fin, .slice sa sn sc, .bool G.L[k].held] 32)) W → AfS w p w8.heap.size G G.L[k].off G.L[k].fin W) := fun W hW =>
      AfS.kept ⟨⟨S, HS9.out, HG.out, hbn⟩, HB9.out, HBXR.out.cell 0 _ rfl, HBXR.out.cell 2 _ rfl⟩ hW
    have hk8 := rem_nat k
    go_upto_region 12 with fail
    generalize w8.alloc (.cells #[.int .u64 G.L[k].off, .int .i64 G.L[k].bs.length, .bool G.L[k].fin, .slice sa sn sc, .bool G.L[k].held] 32) = w9 at *
    have a9 := HAF.out w9 (Below.refl _ _)
    have c0 := a9.c0
    have c2 := a9.c2
    obtain ⟨oo, hoo⟩ : ∃ oo, G.L[k].off = oo := ⟨_, rfl⟩
    rw [hoo] at c0 HAF
    have hE0 : 0 ≤ G.end_ ∧ G.end_ ≤ 4611686018427387904 := by have h1 := HE.out.ok; have := h1.h0; have := h1.h1; have := h1.e1; omega
    have hw1 : IntKind.u64.wrap (G.end_ + 1) = G.end_ + 1 := by rw [IntKind.wrap_u64]; omega
    have HSN : Hid (∀ W, AfS w p w8.heap.size G oo G.L[k].fin W → Calls Try.prog 17 #[.pointer (some ⟨p, 0, none⟩), .int .i64 ((k % 8 : Nat) : Int), .int .u64 oo] W fun e w' => e = .returned (.bool true) ∧ AfS w p w8.heap.size (G.sent k G.L[k] (bit ((k % 8 : Nat) : Int))) oo G.L[k].fin w') := fun W hW => hW.sent HE.out hkl hoo
    obtain ⟨G', hG'⟩ : ∃ G', G.sent k G.L[k] (bit ((k % 8 : Nat) : Int)) = G' := ⟨_, rfl⟩
    have HEN' : Hid (∀ W, AfS w p w8.heap.size G' oo G.L[k].fin W → En G' (k + 1) C) := fun W hW => by
      have := hW.ok
      rw [← hG'] at this ⊢
      exact HE.out.sent hkl (by omega) this
    have hEe : G'.end_ = G.end_ := by rw [← hG']; rfl
    rw [hG'] at HSN
    clear a9 HS9 HB9 HG HBXR hbn hG'
    by_cases hkc : k < C
    · have hfi : G.L[k].fin = false := by rw [HFIN.out]; exact decide_eq_false (by omega)
      have hne : oo ≠ G.end_ := by rw [← hoo]; exact fun e => by have := (HE.out.off_eq hkl).1 e; omega
      have hdne : (oo == G.end_) = false := by simpa using hne
      rw [hfi] at c2 HAF HSN HEN'
      obtain ⟨E, hE⟩ : ∃ E, G.end_ = E := ⟨_, rfl⟩
      rw [hE] at hE0 hw1 hne hdne hEe
      have HENDS : Hid (∀ W, AfS w p w8.heap.size G oo false W → Calls Try.prog 15 #[.pointer (some ⟨p, 0, none⟩)] W fun e w' => e = .returned (.int .u64 E) ∧ w' = W) := fun W hW => by rw [← hE]; exact hW.end_
      have HENDT : Hid (∀ W, AfS w p w8.heap.size G' oo false W → Calls Try.prog 15 #[.pointer (some ⟨p, 0, none⟩)] W fun e w' => e = .returned (.int .u64 E) ∧ w' = W) := fun W hW => by rw [← hEe]; exact hW.end_
      have HACK : Hid (∀ W, AfS w p w8.heap.size G' oo false W → Calls Try.prog 18 #[.pointer (some ⟨p, 0, none⟩), .int .u64 (E + 1), .int .u64 0] W fun e w' => e = .returned (.bool false) ∧ AfS w p w8.heap.size G' oo false w') := fun W hW => by
        have hen := HEN'.out W hW
        refine hW.ackNo (b := false) (by rw [hen.endOut]; exact decide_eq_false (by omega)) hen.finP (E + 1) 0 ?_
        have := hen.ok.h1
        rw [if_neg (by decide)]
        omega
      clear hE hoo hfi HFIN
      go_cut [92] from 55 to 92 (fun s92 wx => s92 = .bool false ∧ AfS w p w8.heap.size G' oo false wx)
      case first =>
        refine wp_region_held_drew (S := fun w' => w'.cell? ⟨w8.heap.size, 0, none⟩ = some (.int .u64 oo) ∧ w'.cell? ⟨w8.heap.size, 2, none⟩ = some (.bool false)) (by kernel_rfl) ⟨c0, c2⟩ (fun hHeld => ?_)
        refine wpAnyH_take (i := 0) (oi := { dst := some 55, op := Op.fieldAddr 32 (Operand.tmp 8) 2, type := 0, pos := "own.go:190", after := #[], guard := none }) (v := ?v0) rfl (by kernel_rfl) (by kernel_rfl) (by kernel_rfl) (fun _ _ _ h => h) (Or.inl ⟨by kernel_rfl, ?h0⟩) (by assumption) ?r0
        case h0 => (intro wt hSw; (try dsimp only at hSw); go_simp; try with_reducible rfl)
        simp only [Act.put, List.setIfInBounds_toArray, List.set_cons_zero, List.set_cons_succ]
        refine wpAnyH_take (i := 1) (oi := { dst := some 56, op := Op.load 4 (Operand.tmp 55), type := 4, pos := "own.go:190", after := #[{ on := 0, ground := Ground.data }], guard := none }) (v := ?v1) rfl (by kernel_rfl) (by kernel_rfl) (by kernel_rfl) (fun _ _ _ h => h) (Or.inl ⟨by kernel_rfl, ?h1⟩) (by assumption) ?r1
        case h1 => (intro wt hSw; (try dsimp only at hSw); go_simp; try with_reducible rfl)
        simp only [Act.put, List.setIfInBounds_toArray, List.set_cons_zero, List.set_cons_succ]
        refine wpAnyH_take (i := 2) (oi := { dst := some 57, op := Op.fieldAddr 32 (Operand.tmp 8) 0, type := 0, pos := "own.go:190", after := #[], guard := none }) (v := ?v2) rfl (by kernel_rfl) (by kernel_rfl) (by kernel_rfl) (fun _ _ _ h => h) (Or.inl ⟨by kernel_rfl, ?h2⟩) (by assumption) ?r2
        case h2 => (intro wt hSw; (try dsimp only at hSw); go_simp; try with_reducible rfl)
        simp only [Act.put, List.setIfInBounds_toArray, List.set_cons_zero, List.set_cons_succ]
        refine wpAnyH_take (i := 3) (oi := { dst := some 58, op := Op.load 22 (Operand.tmp 57), type := 22, pos := "own.go:190", after := #[{ on := 2, ground := Ground.data }], guard := none }) (v := ?v3) rfl (by kernel_rfl) (by kernel_rfl) (by kernel_rfl) (fun _ _ _ h => h) (Or.inl ⟨by kernel_rfl, ?h3⟩) (by assumption) ?r3
        case h3 => (intro wt hSw; (try dsimp only at hSw); go_simp; try with_reducible rfl)
        simp only [Act.put, List.setIfInBounds_toArray, List.set_cons_zero, List.set_cons_succ]
        refine wpAnyH_take (i := 4) (oi := { dst := some 59, op := Op.move (Operand.tmp 5), type := 26, pos := "own.go:190", after := #[], guard := none }) (v := ?v4) rfl (by kernel_rfl) (by kernel_rfl) (by kernel_rfl) (fun _ _ _ h => h) (Or.inl ⟨by kernel_rfl, ?h4⟩) (by assumption) ?r4
        case h4 => (intro wt hSw; (try dsimp only at hSw); go_simp; try with_reducible rfl)
        simp only [Act.put, List.setIfInBounds_toArray, List.set_cons_zero, List.set_cons_succ]
        refine wpAnyH_ready (rs := [5]) (by kernel_rfl) (by simp) ?_
        refine AllReadyH.cons (o := { dst := some 60, op := Op.call { callee := Callee.value (Operand.func 15), args := #[Operand.tmp 59], argTypes := #[26] }, type := 22, pos := "own.go:190", after := #[{ on := 4, ground := Ground.data }], guard := none }) rfl (fun K hK => ?_) AllReadyH.nil
        go_simp
        refine Calls.mono (HENDS.out _ (HAF.out _ (below_drewN (Below.refl _ _) 1))) ?_
        rintro e w13 ⟨rfl, h13⟩
        rw [h13]
        clear h13
        go_simp
        refine hK.out _ _ ?_ (fun hHeld => ?_)
        · exact ⟨by assumption, by assumption⟩
        clear hK K
        refine wpAnyH_take (i := 6) (oi := { dst := some 61, op := Op.binOp BinOp.eql 22 (Operand.tmp 58) (Operand.tmp 60) 22, type := 4, pos := "own.go:190", after := #[{ on := 3, ground := Ground.data }, { on := 5, ground := Ground.data }], guard := none }) (v := ?v6) rfl (by kernel_rfl) (by kernel_rfl) (by kernel_rfl) (fun _ _ _ h => h) (Or.inl ⟨by kernel_rfl, ?h6⟩) (by assumption) ?r6
        case h6 => (intro wt hSw; (try dsimp only at hSw); go_simp; try with_reducible rfl)
        simp only [Act.put, List.setIfInBounds_toArray, List.set_cons_zero, List.set_cons_succ]
        refine wpAnyH_take (i := 7) (oi := { dst := some 62, op := Op.binOp BinOp.neq 4 (Operand.tmp 56) (Operand.tmp 61) 4, type := 4, pos := "own.go:190", after := #[{ on := 1, ground := Ground.data }, { on := 6, ground := Ground.data }], guard := none }) (v := ?v7) rfl (by kernel_rfl) (by kernel_rfl) (by kernel_rfl) (fun _ _ _ h => h) (Or.inl ⟨by kernel_rfl, ?h7⟩) (by assumption) ?r7
        case h7 => (intro wt hSw; (try dsimp only at hSw); go_simp; try with_reducible rfl)
        simp only [Act.put, List.setIfInBounds_toArray, List.set_cons_zero, List.set_cons_succ]
        refine wpAnyH_take (i := 8) (oi := { dst := some 63, op := Op.move (Operand.tmp 62), type := 4, pos := "own.go:190", after := #[{ on := 7, ground := Ground.data }, { on := 5, ground := Ground.chain }], guard := none }) (v := ?v8) rfl (by kernel_rfl) (by kernel_rfl) (by kernel_rfl) (fun _ _ _ h => h) (Or.inl ⟨by kernel_rfl, ?h8⟩) (by assumption) ?r8
        case h8 => (intro wt hSw; (try dsimp only at hSw); go_simp; try with_reducible rfl)
        simp only [Act.put, List.setIfInBounds_toArray, List.set_cons_zero, List.set_cons_succ]
        refine wpAnyH_take (i := 9) (oi := { dst := some 64, op := Op.fieldAddr 32 (Operand.tmp 8) 2, type := 0, pos := "own.go:190", after := #[{ on := 8, ground := Ground.guard }], guard := some (8, false) }) (v := ?v9) rfl (by kernel_rfl) (by kernel_rfl) (by kernel_rfl) (fun _ _ _ h => h) (Or.inl ⟨by kernel_rfl, ?h9⟩) (by assumption) ?r9
        case h9 => (intro wt hSw; (try dsimp only at hSw); go_simp; try with_reducible rfl)
        simp only [Act.put, List.setIfInBounds_toArray, List.set_cons_zero, List.set_cons_succ]
        refine wpAnyH_take (i := 10) (oi := { dst := some 65, op := Op.load 4 (Operand.tmp 64), type := 4, pos := "own.go:190", after := #[{ on := 9, ground := Ground.data }, { on := 8, ground := Ground.guard }], guard := some (8, false) }) (v := ?v10) rfl (by kernel_rfl) (by kernel_rfl) (by kernel_rfl) (fun _ _ _ h => h) (Or.inl ⟨by kernel_rfl, ?h10⟩) (by assumption) ?r10
        case h10 => (intro wt hSw; (try dsimp only at hSw); go_simp; try with_reducible rfl)
        simp only [Act.put, List.setIfInBounds_toArray, List.set_cons_zero, List.set_cons_succ]
        refine wpAnyH_take (i := 11) (oi := { dst := some 66, op := Op.move (Operand.tmp 65), type := 4, pos := "own.go:190", after := #[{ on := 10, ground := Ground.data }, { on := 8, ground := Ground.chain }, { on := 8, ground := Ground.guard }], guard := some (8, false) }) (v := ?v11) rfl (by kernel_rfl) (by kernel_rfl) (by kernel_rfl) (fun _ _ _ h => h) (Or.inl ⟨by kernel_rfl, ?h11⟩) (by assumption) ?r11
        case h11 => (intro wt hSw; (try dsimp only at hSw); go_simp; try with_reducible rfl)
        simp only [Act.put, List.setIfInBounds_toArray, List.set_cons_zero, List.set_cons_succ]
        refine wpAnyH_take (i := 12) (oi := { dst := some 67, op := Op.move (Operand.tmp 5), type := 26, pos := "own.go:190", after := #[{ on := 11, ground := Ground.guard }], guard := some (11, true) }) (v := undef) rfl (by kernel_rfl) (by kernel_rfl) (by kernel_rfl) (fun _ _ _ h => h) (Or.inr ⟨by kernel_rfl, rfl⟩) (by assumption) ?_
        simp only [Act.put, List.setIfInBounds_toArray, List.set_cons_zero, List.set_cons_succ]
        refine wpAnyH_take (i := 14) (oi := { dst := some 69, op := Op.move (Operand.tmp 5), type := 26, pos := "own.go:190", after := #[{ on := 11, ground := Ground.guard }], guard := some (11, true) }) (v := undef) rfl (by kernel_rfl) (by kernel_rfl) (by kernel_rfl) (fun _ _ _ h => h) (Or.inr ⟨by kernel_rfl, rfl⟩) (by assumption) ?_
        simp only [Act.put, List.setIfInBounds_toArray, List.set_cons_zero, List.set_cons_succ]
        refine wpAnyH_ready (rs := [13]) (by kernel_rfl) (by simp) ?_
        refine AllReadyH.cons (o := { dst := some 68, op := Op.call { callee := Callee.value (Operand.func 16), args := #[Operand.tmp 67], argTypes := #[26] }, type := 22, pos := "own.go:190", after := #[{ on := 12, ground := Ground.data }, { on := 11, ground := Ground.chain }, { on := 11, ground := Ground.guard }], guard := some (11, true) }) rfl (fun K hK => ?_) AllReadyH.nil
        rw [if_neg (not_true_of (by kernel_rfl))]
        refine hK.out _ _ (by assumption) (fun hHeld => ?_)
        clear hK K
        simp only [Act.put, List.setIfInBounds_toArray, List.set_cons_zero, List.set_cons_succ]
        refine wpAnyH_ready (rs := [15]) (by kernel_rfl) (by simp) ?_
        refine AllReadyH.cons (o := { dst := some 70, op := Op.call { callee := Callee.value (Operand.func 15), args := #[Operand.tmp 69], argTypes := #[26] }, type := 22, pos := "own.go:190", after := #[{ on := 14, ground := Ground.data }, { on := 13, ground := Ground.chain }, { on := 11, ground := Ground.guard }], guard := some (11, true) }) rfl (fun K hK => ?_) AllReadyH.nil
        rw [if_neg (not_true_of (by kernel_rfl))]
        refine hK.out _ _ (by assumption) (fun hHeld => ?_)
        clear hK K
        simp only [Act.put, List.setIfInBounds_toArray, List.set_cons_zero, List.set_cons_succ]
        refine wpAnyH_take (i := 16) (oi := { dst := some 71, op := Op.binOp BinOp.neq 22 (Operand.tmp 68) (Operand.tmp 70) 22, type := 4, pos := "own.go:190", after := #[{ on := 13, ground := Ground.data }, { on := 15, ground := Ground.data }, { on := 11, ground := Ground.guard }], guard := some (11, true) }) (v := undef) rfl (by kernel_rfl) (by kernel_rfl) (by kernel_rfl) (fun _ _ _ h => h) (Or.inr ⟨by kernel_rfl, rfl⟩) (by assumption) ?_
        simp only [Act.put, List.setIfInBounds_toArray, List.set_cons_zero, List.set_cons_succ]
        refine wpAnyH_take (i := 17) (oi := { dst := some 72, op := Op.pick (Operand.tmp 66) (Operand.tmp 71) (Operand.const (Value.bool false)), type := 4, pos := "own.go:190", after := #[{ on := 11, ground := Ground.data }, { on := 16, ground := Ground.data }, { on := 8, ground := Ground.guard }], guard := some (8, false) }) (v := ?v17) rfl (by kernel_rfl) (by kernel_rfl) (by kernel_rfl) (fun _ _ _ h => h) (Or.inl ⟨by kernel_rfl, ?h17⟩) (by assumption) ?r17
        case h17 => (intro wt hSw; (try dsimp only at hSw); go_simp; try with_reducible rfl)
        simp only [Act.put, List.setIfInBounds_toArray, List.set_cons_zero, List.set_cons_succ]
        refine wpAnyH_take (i := 18) (oi := { dst := some 73, op := Op.pick (Operand.tmp 63) (Operand.const (Value.bool true)) (Operand.tmp 72), type := 4, pos := "own.go:190", after := #[{ on := 8, ground := Ground.data }, { on := 17, ground := Ground.data }], guard := none }) (v := ?v18) rfl (by kernel_rfl) (by kernel_rfl) (by kernel_rfl) (fun _ _ _ h => h) (Or.inl ⟨by kernel_rfl, ?h18⟩) (by assumption) ?r18
        case h18 => (intro wt hSw; (try dsimp only at hSw); go_simp; try with_reducible rfl)
        simp only [Act.put, List.setIfInBounds_toArray, List.set_cons_zero, List.set_cons_succ]
        refine wpAnyH_take (i := 19) (oi := { dst := some 74, op := Op.move (Operand.tmp 73), type := 4, pos := "own.go:190", after := #[{ on := 18, ground := Ground.data }, { on := 15, ground := Ground.chain }], guard := none }) (v := ?v19) rfl (by kernel_rfl) (by kernel_rfl) (by kernel_rfl) (fun _ _ _ h => h) (Or.inl ⟨by kernel_rfl, ?h19⟩) (by assumption) ?r19
        case h19 => (intro wt hSw; (try dsimp only at hSw); go_simp; try with_reducible rfl)
        simp only [Act.put, List.setIfInBounds_toArray, List.set_cons_zero, List.set_cons_succ]
        refine wpAnyH_take (i := 20) (oi := { dst := some 75, op := Op.move (Operand.tmp 5), type := 26, pos := "own.go:190", after := #[{ on := 19, ground := Ground.guard }], guard := some (19, false) }) (v := ?v20) rfl (by kernel_rfl) (by kernel_rfl) (by kernel_rfl) (fun _ _ _ h => h) (Or.inl ⟨by kernel_rfl, ?h20⟩) (by assumption) ?r20
        case h20 => (intro wt hSw; (try dsimp only at hSw); go_simp; try with_reducible rfl)
        simp only [Act.put, List.setIfInBounds_toArray, List.set_cons_zero, List.set_cons_succ]
        refine wpAnyH_take (i := 21) (oi := { dst := some 76, op := Op.move (Operand.tmp 7), type := 3, pos := "own.go:190", after := #[{ on := 19, ground := Ground.guard }], guard := some (19, false) }) (v := ?v21) rfl (by kernel_rfl) (by kernel_rfl) (by kernel_rfl) (fun _ _ _ h => h) (Or.inl ⟨by kernel_rfl, ?h21⟩) (by assumption) ?r21
        case h21 => (intro wt hSw; (try dsimp only at hSw); go_simp; try with_reducible rfl)
        simp only [Act.put, List.setIfInBounds_toArray, List.set_cons_zero, List.set_cons_succ]
        refine wpAnyH_take (i := 22) (oi := { dst := some 77, op := Op.binOp BinOp.rem 3 (Operand.tmp 76) (Operand.const (Value.int IntKind.i64 8)) 3, type := 3, pos := "own.go:190", after := #[{ on := 21, ground := Ground.data }, { on := 19, ground := Ground.guard }], guard := some (19, false) }) (v := ?v22) rfl (by kernel_rfl) (by kernel_rfl) (by kernel_rfl) (fun _ _ _ h => h) (Or.inl ⟨by kernel_rfl, ?h22⟩) (by assumption) ?r22
        case h22 => (intro wt hSw; (try dsimp only at hSw); go_simp; try with_reducible rfl)
        simp only [Act.put, List.setIfInBounds_toArray, List.set_cons_zero, List.set_cons_succ]
        refine wpAnyH_take (i := 23) (oi := { dst := some 78, op := Op.fieldAddr 32 (Operand.tmp 8) 0, type := 0, pos := "own.go:190", after := #[{ on := 19, ground := Ground.guard }], guard := some (19, false) }) (v := ?v23) rfl (by kernel_rfl) (by kernel_rfl) (by kernel_rfl) (fun _ _ _ h => h) (Or.inl ⟨by kernel_rfl, ?h23⟩) (by assumption) ?r23
        case h23 => (intro wt hSw; (try dsimp only at hSw); go_simp; try with_reducible rfl)
        simp only [Act.put, List.setIfInBounds_toArray, List.set_cons_zero, List.set_cons_succ]
        refine wpAnyH_take (i := 24) (oi := { dst := some 79, op := Op.load 22 (Operand.tmp 78), type := 22, pos := "own.go:190", after := #[{ on := 23, ground := Ground.data }, { on := 19, ground := Ground.guard }], guard := some (19, false) }) (v := ?v24) rfl (by kernel_rfl) (by kernel_rfl) (by kernel_rfl) (fun _ _ _ h => h) (Or.inl ⟨by kernel_rfl, ?h24⟩) (by assumption) ?r24
        case h24 => (intro wt hSw; (try dsimp only at hSw); go_simp; try with_reducible rfl)
        simp only [Act.put, List.setIfInBounds_toArray, List.set_cons_zero, List.set_cons_succ]
        refine wpAnyH_ready (rs := [25]) (by kernel_rfl) (by simp) ?_
        refine AllReadyH.cons (o := { dst := some 80, op := Op.call { callee := Callee.value (Operand.func 17), args := #[Operand.tmp 75, Operand.tmp 77, Operand.tmp 79], argTypes := #[26, 3, 22] }, type := 4, pos := "own.go:190", after := #[{ on := 20, ground := Ground.data }, { on := 22, ground := Ground.data }, { on := 24, ground := Ground.data }, { on := 19, ground := Ground.chain }, { on := 19, ground := Ground.guard }], guard := some (19, false) }) rfl (fun K hK => ?_) AllReadyH.nil
        go_simp
        refine Calls.mono (HSN.out _ (HAF.out _ (below_drewN (Below.refl _ _) 1))) ?_
        rintro e w10 ⟨rfl, hs10⟩
        have d0 := hs10.c0
        have d2 := hs10.c2
        have HAS := hid hs10
        clear hs10
        go_simp
        refine hK.out _ _ ?_ (fun hHeld => ?_)
        · exact ⟨by assumption, by assumption⟩
        clear hK K
        refine wpAnyH_take (i := 26) (oi := { dst := some 81, op := Op.unOp UnOp.not 4 (Operand.tmp 80), type := 4, pos := "own.go:190", after := #[{ on := 25, ground := Ground.data }, { on := 19, ground := Ground.guard }], guard := some (19, false) }) (v := ?v26) rfl (by kernel_rfl) (by kernel_rfl) (by kernel_rfl) (fun _ _ _ h => h) (Or.inl ⟨by kernel_rfl, ?h26⟩) (by assumption) ?r26
        case h26 => (intro wt hSw; (try dsimp only at hSw); go_simp; try with_reducible rfl)
        simp only [Act.put, List.setIfInBounds_toArray, List.set_cons_zero, List.set_cons_succ]
        refine wpAnyH_take (i := 27) (oi := { dst := some 82, op := Op.pick (Operand.tmp 74) (Operand.const (Value.bool true)) (Operand.tmp 81), type := 4, pos := "own.go:190", after := #[{ on := 19, ground := Ground.data }, { on := 26, ground := Ground.data }], guard := none }) (v := ?v27) rfl (by kernel_rfl) (by kernel_rfl) (by kernel_rfl) (fun _ _ _ h => h) (Or.inl ⟨by kernel_rfl, ?h27⟩) (by assumption) ?r27
        case h27 => (intro wt hSw; (try dsimp only at hSw); go_simp; try with_reducible rfl)
        simp only [Act.put, List.setIfInBounds_toArray, List.set_cons_zero, List.set_cons_succ]
        refine wpAnyH_take (i := 28) (oi := { dst := some 83, op := Op.move (Operand.tmp 82), type := 4, pos := "own.go:190", after := #[{ on := 27, ground := Ground.data }, { on := 25, ground := Ground.chain }], guard := none }) (v := ?v28) rfl (by kernel_rfl) (by kernel_rfl) (by kernel_rfl) (fun _ _ _ h => h) (Or.inl ⟨by kernel_rfl, ?h28⟩) (by assumption) ?r28
        case h28 => (intro wt hSw; (try dsimp only at hSw); go_simp; try with_reducible rfl)
        simp only [Act.put, List.setIfInBounds_toArray, List.set_cons_zero, List.set_cons_succ]
        refine wpAnyH_take (i := 29) (oi := { dst := some 84, op := Op.fieldAddr 32 (Operand.tmp 8) 2, type := 0, pos := "own.go:190", after := #[{ on := 28, ground := Ground.guard }], guard := some (28, false) }) (v := ?v29) rfl (by kernel_rfl) (by kernel_rfl) (by kernel_rfl) (fun _ _ _ h => h) (Or.inl ⟨by kernel_rfl, ?h29⟩) (by assumption) ?r29
        case h29 => (intro wt hSw; (try dsimp only at hSw); go_simp; try with_reducible rfl)
        simp only [Act.put, List.setIfInBounds_toArray, List.set_cons_zero, List.set_cons_succ]
        refine wpAnyH_take (i := 30) (oi := { dst := some 85, op := Op.load 4 (Operand.tmp 84), type := 4, pos := "own.go:190", after := #[{ on := 29, ground := Ground.data }, { on := 28, ground := Ground.guard }], guard := some (28, false) }) (v := ?v30) rfl (by kernel_rfl) (by kernel_rfl) (by kernel_rfl) (fun _ _ _ h => h) (Or.inl ⟨by kernel_rfl, ?h30⟩) (by assumption) ?r30
        case h30 => (intro wt hSw; (try dsimp only at hSw); go_simp; try with_reducible rfl)
        simp only [Act.put, List.setIfInBounds_toArray, List.set_cons_zero, List.set_cons_succ]
        refine wpAnyH_take (i := 31) (oi := { dst := some 86, op := Op.move (Operand.tmp 5), type := 26, pos := "own.go:190", after := #[{ on := 28, ground := Ground.guard }], guard := some (28, false) }) (v := ?v31) rfl (by kernel_rfl) (by kernel_rfl) (by kernel_rfl) (fun _ _ _ h => h) (Or.inl ⟨by kernel_rfl, ?h31⟩) (by assumption) ?r31
        case h31 => (intro wt hSw; (try dsimp only at hSw); go_simp; try with_reducible rfl)
        simp only [Act.put, List.setIfInBounds_toArray, List.set_cons_zero, List.set_cons_succ]
        refine wpAnyH_take (i := 32) (oi := { dst := some 87, op := Op.move (Operand.tmp 5), type := 26, pos := "own.go:190", after := #[{ on := 28, ground := Ground.guard }], guard := some (28, false) }) (v := ?v32) rfl (by kernel_rfl) (by kernel_rfl) (by kernel_rfl) (fun _ _ _ h => h) (Or.inl ⟨by kernel_rfl, ?h32⟩) (by assumption) ?r32
        case h32 => (intro wt hSw; (try dsimp only at hSw); go_simp; try with_reducible rfl)
        simp only [Act.put, List.setIfInBounds_toArray, List.set_cons_zero, List.set_cons_succ]
        refine wpAnyH_ready (rs := [33]) (by kernel_rfl) (by simp) ?_
        refine AllReadyH.cons (o := { dst := some 88, op := Op.call { callee := Callee.value (Operand.func 15), args := #[Operand.tmp 87], argTypes := #[26] }, type := 22, pos := "own.go:190", after := #[{ on := 32, ground := Ground.data }, { on := 28, ground := Ground.chain }, { on := 28, ground := Ground.guard }], guard := some (28, false) }) rfl (fun K hK => ?_) AllReadyH.nil
        go_simp
        refine Calls.mono (HENDT.out _ HAS.out) ?_
        rintro e w13 ⟨rfl, h13⟩
        rw [h13]
        clear h13
        go_simp
        refine hK.out _ _ ?_ (fun hHeld => ?_)
        · exact ⟨by assumption, by assumption⟩
        clear hK K
        refine wpAnyH_take (i := 34) (oi := { dst := some 89, op := Op.binOp BinOp.add 22 (Operand.tmp 88) (Operand.const (Value.int IntKind.u64 1)) 22, type := 22, pos := "own.go:190", after := #[{ on := 33, ground := Ground.data }, { on := 28, ground := Ground.guard }], guard := some (28, false) }) (v := ?v34) rfl (by kernel_rfl) (by kernel_rfl) (by kernel_rfl) (fun _ _ _ h => h) (Or.inl ⟨by kernel_rfl, ?h34⟩) (by assumption) ?r34
        case h34 => (intro wt hSw; (try dsimp only at hSw); go_simp; try with_reducible rfl)
        simp only [Act.put, List.setIfInBounds_toArray, List.set_cons_zero, List.set_cons_succ]
        refine wpAnyH_ready (rs := [35]) (by kernel_rfl) (by simp) ?_
        refine AllReadyH.cons (o := { dst := some 90, op := Op.call { callee := Callee.value (Operand.func 18), args := #[Operand.tmp 86, Operand.tmp 89, Operand.const (Value.int IntKind.u64 0)], argTypes := #[26, 22, 22] }, type := 4, pos := "own.go:190", after := #[{ on := 31, ground := Ground.data }, { on := 34, ground := Ground.data }, { on := 33, ground := Ground.chain }, { on := 28, ground := Ground.guard }], guard := some (28, false) }) rfl (fun K hK => ?_) AllReadyH.nil
        go_simp
        refine Calls.mono (HACK.out _ HAS.out) ?_
        rintro e w11 ⟨rfl, hs11⟩
        have f0 := hs11.c0
        have f2 := hs11.c2
        have HAT := hid hs11
        clear hs11
        go_simp
        refine hK.out _ _ ?_ (fun hHeld => ?_)
        · exact ⟨by assumption, by assumption⟩
        clear hK K
        refine wpAnyH_take (i := 36) (oi := { dst := some 91, op := Op.binOp BinOp.neq 4 (Operand.tmp 85) (Operand.tmp 90) 4, type := 4, pos := "own.go:190", after := #[{ on := 30, ground := Ground.data }, { on := 35, ground := Ground.data }, { on := 28, ground := Ground.guard }], guard := some (28, false) }) (v := ?v36) rfl (by kernel_rfl) (by kernel_rfl) (by kernel_rfl) (fun _ _ _ h => h) (Or.inl ⟨by kernel_rfl, ?h36⟩) (by assumption) ?r36
        case h36 => (intro wt hSw; (try dsimp only at hSw); go_simp; try with_reducible rfl)
        simp only [Act.put, List.setIfInBounds_toArray, List.set_cons_zero, List.set_cons_succ]
        refine wpAnyH_take (i := 37) (oi := { dst := some 92, op := Op.pick (Operand.tmp 83) (Operand.const (Value.bool true)) (Operand.tmp 91), type := 4, pos := "own.go:190", after := #[{ on := 28, ground := Ground.data }, { on := 36, ground := Ground.data }], guard := none }) (v := ?v37) rfl (by kernel_rfl) (by kernel_rfl) (by kernel_rfl) (fun _ _ _ h => h) (Or.inl ⟨by kernel_rfl, ?h37⟩) (by assumption) ?r37
        case h37 => (intro wt hSw; (try dsimp only at hSw); go_simp; try with_reducible rfl)
        simp only [Act.put, List.setIfInBounds_toArray, List.set_cons_zero, List.set_cons_succ]
        refine wpAnyH_done (by kernel_rfl) ?_ _
        go_wp2_with fail
        go_meet
        exact ⟨rfl, HAT.out⟩
      case rest =>
        obtain ⟨rfl, hA⟩ := hcut
        have HA := hid hA
        have f2 := hA.c2
        clear hA c0 c2
        go_wp2_with fail
        go_roundw
        case rel =>
          obtain ⟨S', h1, h2, _⟩ := HA.out.bf
          exact ⟨k + 1, G', S', hkc, by go_num, hid h1, hid (HEN'.out _ HA.out), hid h2, hid HA.out.bel⟩
        case measure => simp [intOf]; omega
    · obtain rfl : k = C := by omega
      have hfi : G.L[k].fin = true := by rw [HFIN.out]; exact decide_eq_true rfl
      have hoe : oo = G.end_ := by rw [← hoo]; exact (HE.out.off_eq hkl).2 rfl
      rw [hfi] at c2 HAF HSN HEN'
      have hhg : G.high = G.end_ := HE.out.high (Nat.le_refl _)
      obtain ⟨E, hE⟩ : ∃ E, G.end_ = E := ⟨_, rfl⟩
      rw [hE] at hE0 hw1 hoe hEe hhg
      subst hoe
      have hw2 : IntKind.u64.wrap (oo + 2) = oo + 2 := by rw [IntKind.wrap_u64]; omega
      have HENDS : Hid (∀ W, AfS w p w8.heap.size G oo true W → Calls Try.prog 15 #[.pointer (some ⟨p, 0, none⟩)] W fun e w' => e = .returned (.int .u64 oo) ∧ w' = W) := fun W hW => by rw [← hE]; exact hE ▸ hW.end_
      have HHIGH : Hid (∀ W, AfS w p w8.heap.size G oo true W → Calls Try.prog 16 #[.pointer (some ⟨p, 0, none⟩)] W fun e w' => e = .returned (.int .u64 oo) ∧ w' = W) := fun W hW => by have := hW.high; rw [hhg] at this; exact this
      have HENDT : Hid (∀ W, AfS w p w8.heap.size G' oo true W → Calls Try.prog 15 #[.pointer (some ⟨p, 0, none⟩)] W fun e w' => e = .returned (.int .u64 oo) ∧ w' = W) := fun W hW => by have := hW.end_; rw [hEe] at this; exact this
      have HACK : Hid (∀ W, AfS w p w8.heap.size G' oo true W → Calls Try.prog 18 #[.pointer (some ⟨p, 0, none⟩), .int .u64 (oo + 1), .int .u64 0] W fun e w' => e = .returned (.bool true) ∧ ∃ H, AfS w p w8.heap.size H oo true w' ∧ H.closed = true ∧ H.end_ = oo ∧ H.acked = oo + 1 ∧ H.high = oo ∧ H.L = []) := fun W hW => by
        have hen := HEN'.out W hW
        have h1 : G'.endOut = true := by rw [hen.endOut]; exact decide_eq_true (by omega)
        have h2 := hen.high (by omega)
        have h3 := hen.ac
        have h4 := hen.ed
        refine (hW.ackYes h1 hen.finP (oo + 1) 0 (by omega) (by omega) (by rw [if_pos rfl, h2, hEe]; omega)).mono ?_
        rintro e w' ⟨rfl, j, hA⟩
        have h5 : max G'.acked (oo + 1) = oo + 1 := by omega
        rw [h5] at hA
        refine ⟨by rw [decide_eq_true (by omega)]; rfl, _, hA, hen.cl, hEe, rfl, by show G'.high = oo; omega, ?_⟩
        have h6 := hA.ok
        rw [List.eq_nil_iff_forall_not_mem]
        intro c hc
        have h7 := h6.ak c hc
        have h8 := h6.ck c hc
        have h9 : (G'.acks (oo + 1) (max G'.edge 0) j).acked = oo + 1 := rfl
        have h10 := h8.ol
        have h11 : (G'.acks (oo + 1) (max G'.edge 0) j).end_ = oo := hEe
        rw [h9] at h7
        rw [h11] at h10
        unfold Ck.behind at h7
        split at h7 <;> omega
      clear hE hoo hfi HFIN hhg
      go_cut [92] from 55 to 92 (fun s92 wx => s92 = .bool false ∧ ∃ H, AfS w p w8.heap.size H oo true wx ∧ H.closed = true ∧ H.end_ = oo ∧ H.acked = oo + 1 ∧ H.high = oo ∧ H.L = [])
      case first =>
        first
          | (go_region_held3 (fun w' => w'.cell? ⟨w8.heap.size, 0, none⟩ = some (.int .u64 oo) ∧ w'.cell? ⟨w8.heap.size, 2, none⟩ = some (.bool true)) (go_keep)
                (first
                  | (go_at_call 15; refine Calls.mono (HENDT.out _ HAS.out) ?_; rintro e w13 ⟨rfl, h13⟩; rw [h13]; clear h13)
                  | (go_at_call 15; refine Calls.mono (HENDS.out _ (HAF.out _ (below_drewN (Below.refl _ _) 1))) ?_; rintro e w13 ⟨rfl, h13⟩; rw [h13]; clear h13)
                  | (go_at_call 16; refine Calls.mono (HHIGH.out _ (HAF.out _ (below_drewN (Below.refl _ _) 1))) ?_; rintro e w13 ⟨rfl, h13⟩; rw [h13]; clear h13)
                  | (go_at_call 17; refine Calls.mono (HSN.out _ (HAF.out _ (below_drewN (Below.refl _ _) 1))) ?_; rintro e w10 ⟨rfl, hs10⟩; have d0 := hs10.c0; have d2 := hs10.c2; have HAS := hid hs10; clear hs10)
                  | (go_at_call 18; refine Calls.mono (HACK.out _ HAS.out) ?_; rintro e w11 ⟨rfl, H, hs11, hs12⟩; have f0 := hs11.c0; have f2 := hs11.c2; have HAT := hid (And.intro hs11 hs12); clear hs11 hs12)))
          | fail
        all_goals (go_wp2_with fail; go_meet; exact ⟨rfl, H, HAT.out⟩)
      case rest =>
        obtain ⟨rfl, H, hA, g1, g2, g3, g4, g5⟩ := hcut
        have hdn : H.done = true := by unfold Sb.done; rw [g1, g2, g3, decide_eq_true (by omega)]; rfl
        have heo : H.endOut = true := by unfold Sb.endOut; rw [g1, hdn]; rfl
        have hFin : H.Fin := fun _ hh => by rw [g2, g3] at hh; omega
        have HA := hid hA
        have f2 := hA.c2
        have HDONE := hid hA.done
        rw [hdn] at HDONE
        clear hA c0 c2 HSN HEN' HENDS HHIGH HENDT HACK HAF HE
        go_wp2_with fail
        refine HDONE.out.mono ?_
        rintro e w20 ⟨rfl, hb20⟩
        have HA20 := hid (HA.out.kept hb20)
        have HCH := hid HA20.out.chunks
        rw [g5, List.length_nil] at HCH
        clear hb20 HA HDONE f2
        go_wp2_with fail
        refine HCH.out.mono ?_
        rintro e w21 ⟨ac, cc, rfl, hb21⟩
        have HA21 := hid (HA20.out.kept hb21)
        have HAK := hid HA21.out.acked
        have HED := hid HA21.out.end_
        have HNO := hid (HA21.out.ackNo heo hFin (oo + 2) 0 (by rw [if_pos rfl, g4]; omega))
        rw [g3] at HAK
        rw [g2] at HED
        clear hb21 HA20 HCH
        go_wp2_with fail
        refine HAK.out.mono ?_
        rintro e w22 ⟨rfl, h22⟩
        rw [h22]
        clear h22
        go_wp2_with fail
        refine HED.out.mono ?_
        rintro e w23 ⟨rfl, h23⟩
        rw [h23]
        clear h23
        go_wp2_with fail
        refine HED.out.mono ?_
        rintro e w24 ⟨rfl, h24⟩
        rw [h24]
        clear h24
        go_wp2_with fail
        refine HNO.out.mono ?_
        rintro e w25 ⟨rfl, hA25⟩
        have HB25 := hid hA25.bel
        clear hA25
        go_wp2_with fail
        go_ret
        exact ⟨rfl, HB25.out⟩
end Go.Proofs.Ytnohammflhadpaa
