import Derived.Test.YtoeldomhkeancaaSe0
namespace Go.Proofs.Ytoeldomhkeancaa
open Go.RowKit Go.Maps
set_option maxRecDepth 100000

set_option maxHeartbeats 1000000 in
/-- A link that NewLink gave. -/
theorem none_any {w : World} {p : Nat} {K : Lk} (h : LkAt w p K) (hq : 1 ≤ K.queue) : Calls Try.prog 19 #[pt p 0] w fun e w' => e = .returned (.bool false) ∧ w' = w := by
  have c2 := h.row.cell 2 _ rfl
  have hq0 : ¬ K.queue = 0 := by omega
  clear h hq
  go_enter Try.func19, Try.ntmps19
  go_wp2
  go_ret
  exact ⟨by first | rfl | simp [hq0], rfl⟩
/-- What a Put comes to. -/
def PutP (p : Nat) (K : Lk) (t : Int) (bs : List (BitVec 8)) (w : World) (e : Ending) (w' : World) : Prop :=
  ∃ K1 K', GoE K t K1 ∧ Lm p K w K' w' ∧
    ((e = .returned (.bool false) ∧ lossE K K.put = true ∧ K' = { K1 with put := K.put + 1, lost := K.lost + 1 }) ∨
     (e = .returned (.bool false) ∧ lossE K K.put = false ∧ K.queue < K1.wait + bs.length ∧ K' = { K1 with put := K.put + 1, full := K.full + 1 }) ∨
     (e = .returned (.bool true) ∧ lossE K K.put = false ∧ K1.wait + bs.length ≤ K.queue ∧ SendE { K1 with put := K.put + 1 } K.put bs K'))
set_option maxHeartbeats 4000000 in
/-- A frame is put. -/
theorem put_any {w : World} {p : Nat} {K : Lk} (h : LkAt w p K) (hk : K.Ok) (now : Int) (hp0 : 0 ≤ K.put) (hp1 : K.put ≤ 4611686018427387904) (hl0 : 0 ≤ K.lost) (hl1 : K.lost ≤ 4611686018427387904) (hu0 : 0 ≤ K.full) (hu1 : K.full ≤ 4611686018427387904)
    {a : Option Addr} {n cap : Nat} {bs : List (BitVec 8)} (hB : BytesAt w a bs) (hn : bs.length = n) (hn1 : n ≤ 140737488355328) (hfl : K.Fl.length ≤ 2932031007402) (hnum : ∀ y ∈ K.Fl, y.num ≠ K.put) (hgs : ∀ ad, a = some ad → bs ≠ [] → ad.block < w.heap.size ∧ ¬ Foot p K ad.block) :
    Calls Try.prog 9 #[pt p 0, .int .u64 now, .slice a n cap] w fun e w' => PutP p K (tm K.now now) bs w e w' := by
  have hb1 := below_new w (.cells #[pt p 0] 24)
  have RB := Row.new w [pt p 0] 24
  have h1 := h.below hb1
  have hml := hid (fun k hk => h.lt hk : ∀ k, Mem p K k → k < w.heap.size)
  have HBY := hid (hB.kept hb1)
  have HK := hid hk
  subst hn
  clear h hB hk
  go_enter Try.func9, Try.ntmps9
  go_upto_region 1 with fail
  revert hb1 RB h1 HBY
  generalize w.alloc (.cells #[pt p 0] 24) = w1
  intro hb1 RB h1 HBY
  obtain ⟨b, hb⟩ : ∃ b, w.heap.size = b := ⟨_, rfl⟩
  rw [hb] at RB ⊢
  have HFB : Hid (∀ K' w', Lm p K w1 K' w' → Row w' b [pt p 0] 24) := fun K' w' hL => hL.fr.row RB (fun e => by have := hml.out b (.inl e); omega)
  have HFY : Hid (∀ K' w', Lm p K w1 K' w' → BytesAt w' a bs) := fun K' w' hL => HBY.out.fr hL.fr (fun ad e h => (hgs ad e h).2)
  have HFG : Hid (∀ K' w', Lm p K w1 K' w' → ∀ ad, a = some ad → bs ≠ [] → ad.block < w'.heap.size ∧ ¬ Foot p K' ad.block) := fun K' w' hL ad e hne => by
    have h2 := hgs ad e hne
    have h3 := hb1.size
    refine ⟨Nat.lt_of_lt_of_le h2.1 (Nat.le_trans h3 hL.fr.size), fun hf => ?_⟩
    rcases hL.gr _ hf with e' | e'
    · exact h2.2 e'
    · omega
  have HEW : Hid (∀ K' w', Lm p K w1 K' w' → Lm p K w K' w') := fun K' w' hL => Lm.ahead hb1 hL
  have HN := hid (none_any h1 HK.out.q0)
  have HG := hid (goOn_any h1 HK.out now)
  have cb := RB.cell 0 _ rfl
  have HNOW := hid (show K.now ≤ tm K.now now ∧ tm K.now now ≤ 4611686018427387904 by have := HK.out.now1; unfold tm; omega)
  clear h1 HBY hgs hml RB hb1 hb
  go_upto_region 4 with (first
    | (go_at_call 19; refine HN.out.mono ?_; rintro e w1 ⟨rfl, rfl⟩)
    | (go_at_call 20; refine HG.out.mono ?_; rintro e w2 ⟨rfl, K1, hL, hE⟩; have HL2 := hid hL; have HE := hid hE; clear hL hE HN HG))
  have HK1 := hid (HE.out.ok HK.out HNOW.out.1 HNOW.out.2)
  have e0 : K1.put = K.put ∧ K1.lost = K.lost ∧ K1.full = K.full ∧ K1.loss = K.loss ∧ K1.queue = K.queue ∧ K1.Fl = K.Fl := by
    have := HE.out.eq
    generalize K1.S = q1 at this
    generalize K1.sv = q2 at this
    generalize K1.wait = q3 at this
    rw [this]
    exact ⟨rfl, rfl, rfl, rfl, rfl, rfl⟩
  obtain ⟨ep, el, eu, eo, eq, ef⟩ := e0
  clear cb
  have cb := (HFB.out _ _ HL2.out).cell 0 _ rfl
  have c7 := HL2.out.at_.row.cell 7 _ rfl
  have f7 := HL2.out.at_.row.frozen 7
  rw [ep] at c7
  have HL3 : Hid (Lm p K w1 { K1 with put := K.put + 1 } (w2.setCell ⟨p, 7, none⟩ (.int .u64 (K.put + 1)))) := HL2.out.trans (HL2.out.at_.set 7 _ rfl (by decide) (by decide) rfl rfl rfl rfl rfl rfl rfl rfl rfl)
  have HE2 := HE
  go_upto_region 6 with fail
  clear cb c7 f7 HL2
  revert HL3
  generalize w2.setCell ⟨p, 7, none⟩ (.int .u64 (K.put + 1)) = w3
  intro HL3
  have cb := (HFB.out _ _ HL3.out).cell 0 _ rfl
  have HMT : Hid (Calls Try.prog 21 #[.int .i64 K.loss.length, .int .u64 K.put, .func (.func 22) #[] #[pt b 0]] w3 fun e w' => e = .returned (.bool (lossE K K.put)) ∧ w' = w3) := by
    have h1 := meet_b HL3.out.at_ (show K1.loss.length ≤ 65536 from HK1.out.ln) cb hp0
    have h2 : lossE { K1 with put := K.put + 1 } K.put = lossE K K.put := by unfold lossE; rw [show ({ K1 with put := K.put + 1 } : Lk).loss = K.loss from eo]
    rw [h2] at h1
    rw [← eo]
    exact h1
  obtain ⟨ax, cx, hlv, -⟩ := own1 HL3.out.at_.lo
  have c3 : w3.cell? ⟨p, 3, none⟩ = some K1.lv := HL3.out.at_.row.cell 3 _ rfl
  rw [show K1.lv = _ from hlv, show ({ K1 with put := K.put + 1 } : Lk).loss = K.loss from eo] at c3
  clear hlv
  cases hlo : lossE K K.put with
  | true =>
    rw [hlo] at HMT
    have c8 : w3.cell? ⟨p, 8, none⟩ = some (.int .u64 K1.lost) := HL3.out.at_.row.cell 8 _ rfl
    have f8 := HL3.out.at_.row.frozen 8
    rw [el] at c8
    have HL4 : Hid (Lm p K w1 { K1 with put := K.put + 1, lost := K.lost + 1 } (w3.setCell ⟨p, 8, none⟩ (.int .u64 (K.lost + 1)))) := HL3.out.trans (HL3.out.at_.set 8 _ rfl (by decide) (by decide) rfl rfl rfl rfl rfl rfl rfl rfl rfl)
    clear HL3
    go_wp2_with (go_at_call 21; refine HMT.out.mono ?_; rintro e w3 ⟨rfl, rfl⟩)
    go_ret
    exact ⟨K1, _, HE.out, HEW.out _ _ HL4.out, .inl ⟨rfl, hlo, rfl⟩⟩
  | false =>
    rw [hlo] at HMT
    have c2 : w3.cell? ⟨p, 2, none⟩ = some (.int .i64 K1.queue) := HL3.out.at_.row.cell 2 _ rfl
    have c11 : w3.cell? ⟨p, 11, none⟩ = some (.int .i64 K1.wait) := HL3.out.at_.row.cell 11 _ rfl
    rw [eq] at c2
    have hw0 : 0 ≤ K1.wait := by rw [HK1.out.wait]; exact sumW_nonneg HK1.out.wt
    have hw1 : K1.wait ≤ 1073741824 := Int.le_trans HK1.out.waitq HK1.out.q1
    have hni : (bs.length : Int) ≤ 140737488355328 := by omega
    have hn0 : (0 : Int) ≤ (bs.length : Int) := by omega
    go_upto_region 9 with (go_at_call 21; refine HMT.out.mono ?_; rintro e w3 ⟨rfl, rfl⟩)
    by_cases hr : K.queue < K1.wait + (bs.length : Int)
    · have c9 : w3.cell? ⟨p, 9, none⟩ = some (.int .u64 K1.full) := HL3.out.at_.row.cell 9 _ rfl
      have f9 := HL3.out.at_.row.frozen 9
      rw [eu] at c9
      go_quiet (fail)
      have HL4 : Hid (Lm p K w1 { K1 with put := K.put + 1, full := K.full + 1 } ((w3.drewN nq).setCell ⟨p, 9, none⟩ (.int .u64 (K.full + 1)))) := Lm.trans (HL3.out.below (below_drewN (Below.refl _ _) nq)) ((HL3.out.at_.below (below_drewN (Below.refl _ _) nq)).set 9 _ rfl (by decide) (by decide) rfl rfl rfl rfl rfl rfl rfl rfl rfl)
      clear HL3
      go_wp2_with fail
      go_ret
      exact ⟨K1, _, HE.out, HEW.out _ _ HL4.out, .inr (.inl ⟨rfl, hlo, hr, rfl⟩)⟩
    · go_quiet (fail)
      have HL4 : Hid (Lm p K w1 { K1 with put := K.put + 1 } (w3.drewN nq)) := HL3.out.below (below_drewN (Below.refl _ _) nq)
      have HOK : Hid (Lk.Ok { K1 with put := K.put + 1 }) := ⟨HK1.out.r0, HK1.out.r1, HK1.out.d0, HK1.out.d1, HK1.out.q0, HK1.out.q1, HK1.out.ln, HK1.out.jn, HK1.out.jt, HK1.out.now0, HK1.out.now1, HK1.out.wt, HK1.out.wait, HK1.out.waitq, HK1.out.busy0, HK1.out.busy⟩
      have HSE := hid (send_any HL4.out.at_ HOK.out hp0 (cap := cap) (HFY.out _ _ HL4.out) rfl (show K1.wait + (bs.length : Int) ≤ K1.queue by omega) (show K1.Fl.length ≤ 2932031007402 by rw [ef]; exact hfl) (show ∀ y ∈ K1.Fl, y.num ≠ K.put by rw [ef]; exact hnum) (HFG.out _ _ HL4.out))
      go_wp2_with (go_at_call 23; refine HSE.out.mono ?_; rintro e w5 ⟨rfl, K', hL5, hS5⟩; have HL5 := hid hL5; have HS5 := hid hS5; clear hL5 hS5)
      go_ret
      exact ⟨K1, K', HE.out, HEW.out _ _ (HL4.out.trans HL5.out), .inr (.inr ⟨rfl, hlo, by omega, HS5.out⟩)⟩
end Go.Proofs.Ytoeldomhkeancaa
