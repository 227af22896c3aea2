import Derived.Test.YtgkfnbbgohdalaaDoorNum
import Derived.Deep.CutRange
namespace Go.Proofs.YtgkfnbbgohdalaaDoor
open Go.RowKit
set_option maxRecDepth 100000

theorem BytesAt.cut {w : World} {g o : Nat} {bs : List (BitVec 8)} (h : BytesAt w (some ⟨g, o, none⟩) bs) (i n : Nat) : BytesAt w (some ⟨g, o + i, none⟩) (cut bs i n) := by
  intro k hk
  have hk2 : i + k < bs.length := by simp [YtgkfnbbgohdalaaDoor.cut] at hk; omega
  obtain ⟨g2, o2, e, c⟩ := h (i + k) hk2
  cases e
  refine ⟨g, o + i, rfl, ?_⟩
  have e2 : (YtgkfnbbgohdalaaDoor.cut bs i n)[k] = bs[i + k] := by simp [YtgkfnbbgohdalaaDoor.cut]
  rw [e2, Nat.add_assoc]; exact c
theorem BytesAt.addr {w : World} {a : Option Addr} {bs : List (BitVec 8)} (h : BytesAt w a bs) (h0 : 0 < bs.length) : ∃ g o, a = some ⟨g, o, none⟩ := by
  obtain ⟨g, o, e, _⟩ := h 0 h0; exact ⟨g, o, e⟩
theorem BytesAt.byte {w : World} {g o : Nat} {bs : List (BitVec 8)} (h : BytesAt w (some ⟨g, o, none⟩) bs) (i : Nat) (hi : i < bs.length) : w.cell? ⟨g, o + i, none⟩ = some (.int .u8 (ub (byte bs i))) := by
  obtain ⟨g2, o2, e, c⟩ := h i hi
  cases e
  rw [c, YtgkfnbbgohdalaaDoor.byte, List.getD_eq_getElem?_getD, List.getElem?_eq_getElem hi]; rfl
theorem BytesAt.bel {w w' : World} {B : Nat} {a : Option Addr} {bs : List (BitVec 8)} (h : BytesAt w a bs) (hb : Below B w w') (hB : B = w.heap.size) : BytesAt w' a bs := by subst hB; exact h.kept hb

/-- The short sum of one part. -/
theorem crc_one {w : World} {p cp : Nat} {ad : Option Addr} {bs : List (BitVec 8)} {n : Nat} (hT : CrcTab w) (h1 : w.cell? ⟨p, 0, none⟩ = some (.slice ad n cp)) (hn : bs.length = n) (h2 : BytesAt w ad bs) (h3 : n ≤ 281474976710656) :
    Calls Tryd.prog 21 #[.slice (some ⟨p, 0, none⟩) 1 1] w fun e w' => e = .returned (.int .u32 (u (crc bs))) ∧ w' = w := by
  subst hn
  have hP : PartsAt w (some ⟨p, 0, none⟩) [bs] := by
    intro j hj
    have : j = 0 := by simpa using hj
    subst this
    exact ⟨p, 0, ad, cp, rfl, h1, h2, h3⟩
  have := crc_any (cap := 1) hP hT (by simp)
  rw [show [bs].flatten = bs by simp] at this
  exact this

open Classical in
set_option maxHeartbeats 2000000 in
theorem summed_any {w : World} {a : Option Addr} {n cap : Nat} {bs : List (BitVec 8)} (hB : BytesAt w a bs) (hn : bs.length = n) (h4 : 7 ≤ n) (h5 : n ≤ 1048) (hcap : n ≤ cap) (hT : CrcTab w) :
    Calls Tryd.prog 29 #[.slice a n cap] w fun e w' => e = .returned (.bool (decide (summedB bs))) ∧ Below w.heap.size w w' := by
  obtain ⟨g, o, rfl⟩ := hB.addr (by omega)
  have n1 : (7 : Int) ≤ (n : Int) := by omega
  have n2 : (n : Int) ≤ 1048 := by omega
  obtain ⟨m, hm⟩ : ∃ m, m = n - 4 := ⟨_, rfl⟩
  have m1 : (n : Int) - 4 = (m : Int) := by omega
  have m2 : (m : Int) ≤ (cap : Int) := by omega
  have m3 : (m : Int) ≤ (n : Int) := by omega
  have e4 : n - m = 4 := by omega
  have e5 : ¬ cap = m := by omega
  have hfin : decide (summedB bs) = ((val (YtgkfnbbgohdalaaDoor.cut bs m 4) : Int) == u (crc (YtgkfnbbgohdalaaDoor.cut bs 0 m))) := by
    have hs : summedB bs ↔ (val (YtgkfnbbgohdalaaDoor.cut bs m 4) : Int) = u (crc (YtgkfnbbgohdalaaDoor.cut bs 0 m)) := by
      unfold summedB
      rw [hn, ← hm]
      have e1 : bs.drop m = YtgkfnbbgohdalaaDoor.cut bs m 4 := by
        unfold YtgkfnbbgohdalaaDoor.cut; rw [List.take_of_length_le]; simp; omega
      have e2 : bs.take m = YtgkfnbbgohdalaaDoor.cut bs 0 m := by simp [YtgkfnbbgohdalaaDoor.cut]
      rw [e1, e2]
      unfold u
      omega
    rw [Bool.eq_iff_iff, decide_eq_true_eq, beq_iff_eq]; exact hs
  have HFIN : Hid _ := hfin
  have HN : Hid (∀ w', Below w.heap.size w w' → Calls Tryd.prog 42 #[.slice (some ⟨g, o + m, none⟩) 4 (cap - m)] w' fun e w'' => e = .returned (.int .u64 (val (YtgkfnbbgohdalaaDoor.cut bs m 4) : Nat)) ∧ w'' = w') :=
    fun w' h => number_any ((hB.kept h).cut m 4) (cut_len _ _ _ (by omega)) (by decide)
  have HC : Hid (∀ w' p, Below w.heap.size w w' → w'.cell? ⟨p, 0, none⟩ = some (.slice (some ⟨g, o, none⟩) m cap) → Calls Tryd.prog 21 #[.slice (some ⟨p, 0, none⟩) 1 1] w' fun e w'' => e = .returned (.int .u32 (u (crc (YtgkfnbbgohdalaaDoor.cut bs 0 m)))) ∧ w'' = w') :=
    fun w' p h hc => crc_one (hT.kept h) hc (cut_len _ _ _ (by omega)) ((hB.kept h).cut 0 m) (by omega)
  have hcu := u_bd (crc (YtgkfnbbgohdalaaDoor.cut bs 0 m))
  have hw1 : IntKind.u64.wrap (u (crc (YtgkfnbbgohdalaaDoor.cut bs 0 m))) = u (crc (YtgkfnbbgohdalaaDoor.cut bs 0 m)) := by rw [IntKind.wrap_u64]; omega
  clear hB hT hfin hm h4 h5 hcap hn
  generalize crc (YtgkfnbbgohdalaaDoor.cut bs 0 m) = cc at *
  generalize val (YtgkfnbbgohdalaaDoor.cut bs m 4) = vv at *
  go_enter Tryd.func29, Tryd.ntmps29
  go_wp2
  go_region_with (first
    | (go_at_call 42; refine (HN.out _ ?_).mono ?_; (first | exact below_drawn (Below.refl _ _) _ | exact below_drawn ((Below.refl _ _).alloc (Nat.le_refl _) _) _); rintro e w' ⟨rfl, rfl⟩)
    | (go_at_call 21; refine (HC.out _ _ ?_ ?_).mono ?_; exact below_drawn ((Below.refl _ _).alloc (Nat.le_refl _) _) _; exact cell_drawn _ ((Row.new w [.slice (some ⟨g, o, none⟩) m cap] 23).cell 0 _ rfl); rintro e w' ⟨rfl, rfl⟩))
  all_goals
    go_wp2
    go_ret
    refine ⟨?_, below_drawn ((Below.refl _ _).alloc (Nat.le_refl _) _) _⟩
    rw [HFIN.out]; rfl
end Go.Proofs.YtgkfnbbgohdalaaDoor
