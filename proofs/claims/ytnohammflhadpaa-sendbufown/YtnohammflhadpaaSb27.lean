import Derived.Test.YtnohammflhadpaaSb26
import Derived.Lib.SlBytesConst
namespace Go.Proofs.Ytnohammflhadpaa
open Go.RowKit Go.Maps Go.Sort
set_option maxRecDepth 100000

theorem bytes_const (w : World) (bs : List (BitVec 8)) (fr : Nat × Nat) : BytesAt (w.alloc (.cells (bcells bs).toArray 5 fr)) (some ⟨w.heap.size, 0, none⟩) bs := fun k hk => by
  refine ⟨_, _, rfl, ?_⟩
  rw [Nat.zero_add, World.cell?_alloc_mark]
  simpa using bcells_get hk
def abc : List (BitVec 8) := [97#8, 98#8, 99#8, 100#8, 101#8, 102#8, 103#8]
def abL (g : Nat) : List Ck := [dataCk 100 [97#8, 98#8, 99#8, 100#8] (some ⟨g, 0, none⟩), dataCk 104 [101#8, 102#8, 103#8] (some ⟨g, 4, none⟩)]
theorem cut_abc (g t : Nat) (h : 7 ≤ t * 4) : cutCks 4 g t 0 100 (abc.take 7) = abL g := by
  obtain ⟨t, rfl⟩ : ∃ s, t = s + 2 := ⟨t - 2, by omega⟩
  have : ∀ o e, cutCks 4 g t o e [] = [] := fun o e => by cases t <;> simp [cutCks]
  simp [cutCks, abc, abL, this]
def abF (g : Nat) : Sb := ⟨10, 4, 100, 100, 107, 106, false, abL g⟩
theorem abF_cut (g t : Nat) (h : 7 ≤ t * 4) : (Sb.mk1 100 10 4 106).cutT 4 g 0 (abc.take 7) t = abF g := by
  unfold Sb.cutT abF
  rw [show (Sb.mk1 100 10 4 106).end_ = 100 from rfl, show (Sb.mk1 100 10 4 106).L = [] from rfl, List.nil_append, cut_abc g t h]
  have e : min (t * 4) (abc.take 7).length = 7 := by simp [abc]; omega
  rw [e]
  rfl
theorem abF_go (g : Nat) : (abF g).mayGo (dataCk 100 [97#8, 98#8, 99#8, 100#8] (some ⟨g, 0, none⟩)) = true := by
  simp [Sb.mayGo, dataCk, Ck.behind, abF]
theorem abF_low (g : Nat) : (abF g).low 255 = some (dataCk 100 [97#8, 98#8, 99#8, 100#8] (some ⟨g, 0, none⟩)) := by
  show (abF g).lowFrom 255 (abL g) = _
  unfold abL Sb.lowFrom
  rw [if_pos (abF_go g), if_pos (by show (!false && (bits BinOp.and IntKind.u8 0 255 == 0)) = true; decide)]
theorem abF_may (g : Nat) : (abF g).mayOn (dataCk 100 [97#8, 98#8, 99#8, 100#8] (some ⟨g, 0, none⟩)) (bit 0) = true := by
  unfold Sb.mayOn
  rw [abF_go g]
  show (!(bit 0 == 0) && (!false && (bits BinOp.and IntKind.u8 0 (bit 0) == 0)) && true) = true
  decide

set_option maxHeartbeats 4000000 in
theorem awake_any (w : World) : Calls Try.prog 10 #[] w fun e w' => e = .returned (.bool true) ∧ Below w.heap.size w w' := by
  have kc := fun (w : World) (C : Array Value) (n c : Nat) => Lib.run_convert_bytes_const (P := Try.prog) w 25 5 C n c Try.underlying25 Try.underlying5
  go_enter Try.func10, Try.ntmps10
  go_wp2_with fail
  refine (new_any w (b := 100) (r := 10) (m := 4) (by decide) (by decide) (by decide) rfl rfl rfl).mono ?_
  rintro e w1 ⟨p, rfl, hS, hb1, hp1⟩
  have HS1 := hid hS
  have HB1 := hid hb1
  clear hS hb1
  have hbx : Below w1.heap.size w1 (w1.alloc (.cells (bcells abc).toArray 5 (7, 8))) := (Below.refl _ _).alloc (Nat.le_refl _) _
  have HW := hid (write_yes (HS1.out.kept hbx) rfl (by decide) (bytes_const w1 abc (7, 8)) 7 7 rfl (by decide) (by decide) (fun e => by cases e) (fun d hd => by cases hd) (fun g o e => by cases e) 7 (by decide))
  have HBX := hid (HB1.out.trans (hbx.mono HB1.out.size))
  clear hbx
  go_wp2_with fail
  refine HW.out.mono ?_
  rintro e w2 ⟨rfl, hA⟩
  rcases hA with ⟨h0, _⟩ | ⟨wq, m, g, t, a', cap', _, hbq, hm, hg, ht, hC⟩
  · cases h0
  obtain rfl : m = 4 := by
    have : (4 : Int) = m := hm
    omega
  have hsb := hC.sb
  rw [abF_cut g t ht] at hsb
  obtain ⟨g2, o2, arr, rfl, _⟩ := hsb.blk (k := 0) (by show 0 < 2; decide)
  have hg2 : w.heap.size ≤ g2 := by
    rcases hC.ap g2 o2 rfl with ⟨_, e⟩ | e
    · cases e
    · have := HBX.out.size; have := hbq.size; omega
  have HB2 : Hid (Below w.heap.size w w2) := by
    have h1 := HBX.out.trans (hbq.mono HBX.out.size)
    refine h1.trans (hC.fr.below (fun x hx => ?_) h1.size)
    rcases hx with rfl | ⟨_, e⟩
    · exact hp1
    · cases e
  have HS2 := hid hsb
  clear hsb hC hbq hm hg ht HS1 HB1 HBX HW
  go_wp2_with fail
  refine (free_any HS2.out.r).mono ?_
  rintro e w3 ⟨rfl, q, rfl⟩
  rw [show (abF g).free = 3 from rfl]
  have hb3 := below_drewN (Below.refl w2.heap.size w2) q
  have HS3 := hid (HS2.out.kept hb3)
  have HB3 := hid (HB2.out.trans (hb3.mono HB2.out.size))
  clear hb3 HS2 HB2
  generalize w2.drewN q = w3 at *
  go_wp2_with fail
  refine (want_any HS3.out.r).mono ?_
  rintro e w4 hL
  rw [abF_low] at hL
  obtain ⟨hb4, s, rfl, hs⟩ := hL
  obtain ⟨sa, sc, rfl⟩ := ownI_shape hs
  generalize (onUp (dataCk 100 [97#8, 98#8, 99#8, 100#8] (some ⟨g, 0, none⟩)).on 8).length = sn at *
  rw [show ChV (dataCk 100 [97#8, 98#8, 99#8, 100#8] (some ⟨g, 0, none⟩)) (.slice sa sn sc) = .agg #[.int .u64 100, .int .i64 4, .bool false, .slice sa sn sc, .bool false] from rfl]
  have HS4 := hid (HS3.out.kept hb4)
  have HB4 := hid (HB3.out.trans (hb4.mono HB3.out.size))
  clear hb4 hs HS3 HB3
  have hb5 : Below w4.heap.size w4 (w4.alloc (.cells #[.int .u64 100, .int .i64 4, .bool false, .slice sa sn sc, .bool false] 32)) := (Below.refl _ _).alloc (Nat.le_refl _) _
  have HS5 := hid (HS4.out.kept hb5)
  have HB5 := hid (HB4.out.trans (hb5.mono HB4.out.size))
  clear hb5 HS4 HB4
  go_wp2_with fail
  generalize w4.alloc (.cells #[.int .u64 100, .int .i64 4, .bool false, .slice sa sn sc, .bool false] 32) = w5 at *
  refine (bytes_some HS5.out.r (off := 100) (k := 0) ⟨by show 0 < 2; decide, rfl⟩ (by show 0 < 2; decide) (fun e => by cases e)).mono ?_
  rintro e w6 ⟨wa, hba, ax, cx, rfl, hB, _, _, _, hbb⟩
  have hB' : BytesAt w6 ax [97#8, 98#8, 99#8, 100#8] := hB
  have hcv := convert_any (cap := cx) hB' (n := 4) rfl
  rw [show strOf [97#8, 98#8, 99#8, 100#8] = ⟨#[97, 98, 99, 100]⟩ by rfl] at hcv
  have h56 := hba.trans (hbb.mono hba.size)
  have HS6 := hid (HS5.out.kept h56)
  have HB6 := hid (HB5.out.trans (h56.mono HB5.out.size))
  rw [show ((abF g).L[0]'(by show 0 < 2; decide)).bs.length = 4 from rfl]
  clear hba hbb hB hB' h56 HS5 HB5
  go_wp2_with fail
  refine (sent_on HS6.out 0 (off := 100) (k := 0) (by show 0 < 2; decide) rfl (abF_may g)).mono ?_
  rintro e w7 ⟨rfl, hS7, hf7⟩
  have HB7 : Hid (Below w.heap.size w w7) := HB6.out.trans (hf7.below (fun x hx => by rcases hx with rfl | rfl <;> assumption) HB6.out.size)
  have HS7 := hid hS7
  clear hS7 hf7 hcv
  go_wp2_with fail
  refine (high_any HS7.out.r).mono ?_
  rintro e w8 ⟨rfl, rfl⟩
  rw [show ((abF g).sent 0 ((abF g).L[0]'(by show 0 < 2; decide)) (bit 0)).high = 104 from rfl]
  go_wp2_with fail
  go_ret
  exact ⟨rfl, HB7.out⟩
end Go.Proofs.Ytnohammflhadpaa
