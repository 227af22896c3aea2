import Derived.Test.YtaklbofbhanjgaaDoorDigest
import Derived.Lib.SlBytesConst
namespace Go.Proofs.YtaklbofbhanjgaaDoor
open Go.RowKit
set_option maxRecDepth 100000

/-- The parts lie from address a on, each a list of bytes with its room. -/
def PartsC (w : World) (a : Option Addr) (ps : List (List (BitVec 8))) : Prop :=
  ∀ k (h : k < ps.length), ∃ g o ad cap, a = some ⟨g, o, none⟩ ∧ w.cell? ⟨g, o + k, none⟩ = some (.slice ad ps[k].length cap) ∧ BytesAt w ad ps[k] ∧ ps[k].length ≤ cap ∧ cap ≤ 9223372036854775807
theorem PartsC.kept {w w' : World} {a : Option Addr} {ps : List (List (BitVec 8))} (h : PartsC w a ps) (hb : Below w.heap.size w w') : PartsC w' a ps :=
  fun k hk => by obtain ⟨g, o, ad, cap, e, c, b, l⟩ := h k hk; exact ⟨g, o, ad, cap, e, cell_kept hb c, b.kept hb, l⟩

set_option maxHeartbeats 800000 in
theorem of_any {w : World} {a : Option Addr} {cap : Nat} {ps : List (List (BitVec 8))} (hP : PartsC w a ps) (hlen : ps.length ≤ 9223372036854775807) (hK : KTab w) (h2 : 2 ≤ w.heap.size) :
    Calls Tryd.prog 37 #[.slice a ps.length cap] w fun e w' => e = .returned (.agg (bcells (sha ps.flatten)).toArray) ∧ Below w.heap.size w w' := by
  have HP : Hid (PartsC w a ps) := hP
  have HK : Hid (KTab w) := hK
  have H2 : Hid _ := h2
  have I39 : Hid _ := i39
  have I44 : Hid _ := i44
  have hz39 := z39
  have hl : (ps.length : Int) ≤ 9223372036854775807 := by omega
  clear hP hK h2 hlen
  go_enter Tryd.func37, Tryd.ntmps37
  go_upto_region 1 with (fail)
  refine wp_world fun wa HW => ?_
  have HRr : Hid (Row wa w.heap.size (bcells z32) 25) := by show Row _ _ _ _; rw [HW.out]; exact Row.new' _ _ _ _ _ rfl rfl
  have HBa : Hid (Below w.heap.size w wa) := by show Below _ _ _; rw [HW.out]; exact (Below.refl _ _).alloc (Nat.le_refl _) _
  clear HW
  go_upto_region 2 with (first
    | (go_at_call 67; refine (fresh_any _).mono ?_; rintro e w1 ⟨rfl, hb1⟩; have HB1 : Hid _ := hb1; clear hb1)
    | (show wpList _ _ _ (Oper.mk none (.store 108 (.tmp 3) (.tmp 6)) _ _ _ _ :: _) _ _; refine (Row.new w1 hz 108).wpStore' 108 (.tmp 3) (.tmp 6) (hcells st0 z64 0) rfl rfl rfl rfl (by rw [hz_len, hcells_len _ _ _ (by rfl)]) (hcells_one _ _ _) (by rw [hcells_len _ _ _ (by rfl)]; exact I39.out) ?_; intro wb HW))
  have HRQ : Hid (w.heap.size < w1.heap.size) := Nat.lt_of_lt_of_le HRr.out.lt HB1.out.size
  have HHb : Hid (HashAt wb w1.heap.size []) := ⟨st0, z64, Took.nil _ rfl, by rw [HW.out]; exact (Row.new w1 hz 108).row _⟩
  have HBb : Hid (Below wa.heap.size wa wb) := by show Below _ _ _; rw [HW.out]; exact Go.below_setRow (HB1.out.alloc HB1.out.size _) HB1.out.size _
  have HRb : Hid (Row wb w.heap.size (bcells z32) 25) := HRr.out.kept HBb.out HRr.out.lt
  have HBw : Hid (Below w.heap.size w wb) := HBa.out.trans (HBb.out.mono HBa.out.size)
  clear HW HRr HBa HBb HB1 hz39
  generalize w1.heap.size = q at *
  have Hq2 : Hid (2 ≤ q) := by show 2 ≤ q; have := H2.out; have := HRQ.out; omega
  go_wp2
  go_loopw [9] (fun i wr => ∃ k : Nat, k ≤ ps.length ∧ i = .int .i64 k ∧ HashAt wr q (ps.take k).flatten ∧ Row wr w.heap.size (bcells z32) 25 ∧ Below w.heap.size w wr) (fun i _ => ps.length - (intOf i).toNat)
  case atStart => exact ⟨0, Nat.zero_le _, rfl, HHb.out, HRb.out, HBw.out⟩
  case round =>
    clear HHb HRb HBw
    obtain ⟨k, hk, rfl, hH, hR, hb⟩ := hrel
    by_cases hlt : k < ps.length
    · obtain ⟨g, o, ad, pc, rfl, c1, c2, c3, c4⟩ := HP.out k hlt
      have d1 := cell_kept hb c1
      have HT : Hid _ := take_any (w := wr) hH Hq2.out (HK.out.kept hb) ((c2.off (Nat.le_of_lt HRQ.out)).kept hb) c3 c4
      have hs := flat_snoc ps k hlt
      have HS : Hid _ := hs
      generalize ps[k] = b at *
      have HR : Hid _ := hR
      have HB : Hid _ := hb
      clear hs c1 c2 c3 c4 hH hR hb
      go_wp2_with (go_at_call 68; refine Calls.mono HT.out ?_; rintro e w3 ⟨rfl, hh, ho⟩; have HH3 : Hid _ := hh; have HO3 : Hid _ := ho; clear hh ho)
      go_roundw
      case rel => exact ⟨k + 1, hlt, by go_num, by rw [HS.out]; exact HH3.out, HO3.out.row HR.out (by have := HRQ.out; omega), HB.out.trans (HO3.out.below HB.out.size (Nat.le_of_lt HRQ.out))⟩
      case measure => simp [intOf]; omega
    · have e : k = ps.length := by omega
      subst e
      rw [List.take_length] at hH
      have HD : Hid _ := digest_any hH Hq2.out (HK.out.kept hb)
      have HLS : Hid ((sha ps.flatten).length = 32) := by show (sha ps.flatten).length = 32; unfold sha; rw [wordsFlat_len]; rfl
      have HR : Hid _ := hR
      have HB : Hid _ := hb
      clear hH hR hb
      generalize hE : sha ps.flatten = E at *
      have HE : Hid _ := hE
      clear hE
      go_wp2_with (first
        | (go_at_call 69; refine Calls.mono HD.out ?_; rintro e w4 ⟨rfl, hb4⟩; have HB4 : Hid _ := hb4; clear hb4)
        | (show wpList _ _ _ (Oper.mk none (.store 25 (.tmp 2) (.tmp 16)) _ _ _ _ :: _) _ _; refine (HR.out.kept HB4.out HR.out.lt).wpStore' 25 (.tmp 2) (.tmp 16) (bcells E) rfl rfl rfl rfl (by rw [bcells_len, bcells_len, HLS.out]; rfl) (bcells_one _) (by rw [bcells_len, HLS.out]; exact I44.out) ?_; intro wz HZ))
      have R : Row wz w.heap.size (bcells E) 25 := by rw [HZ.out]; exact (HR.out.kept HB4.out HR.out.lt).row _
      have hB : Below w.heap.size w wz := by rw [HZ.out]; exact Go.below_setRow (HB.out.trans (HB4.out.mono HB.out.size)) (Nat.le_refl _) _
      exact bodyPost_ret (v := .agg (bcells E).toArray) (R.result Tryd.results37 _ rfl _ Tryd.underlying25 rfl (by rw [bcells_len, HLS.out]; exact I44.out)) rfl ⟨by rw [HE.out], hB⟩
end Go.Proofs.YtaklbofbhanjgaaDoor
namespace Go.Proofs.YtaklbofbhanjgaaDoor
open Go.RowKit
set_option maxRecDepth 100000

def abc : List (BitVec 8) := [97#8, 98#8, 99#8]
def nine : List (BitVec 8) := [49#8, 50#8, 51#8, 52#8, 53#8, 54#8, 55#8, 56#8, 57#8]
theorem shaAbc : (sha abc).getD 0 0 = 186#8 ∧ (sha abc).getD 1 0 = 120#8 ∧ (sha abc).getD 31 0 = 173#8 := by decide +kernel
theorem crcNine : crc nine = 3421780262#32 := by decide +kernel
theorem crcNone : crc [] = 0#32 := by decide +kernel

theorem Row.bytesAt {w : World} {g t : Nat} {bs : List (BitVec 8)} (R : Row w g (bcells bs) t) : BytesAt w (some ⟨g, 0, none⟩) bs := fun k hk => ⟨g, 0, rfl, by rw [Nat.zero_add]; exact R.cell k _ (bcells_get hk)⟩
theorem parts_one {w : World} {g cap : Nat} {ad : Option Addr} {bs : List (BitVec 8)} (c : w.cell? ⟨g, 0, none⟩ = some (.slice ad bs.length cap)) (B : BytesAt w ad bs) (h1 : bs.length ≤ cap) (h2 : cap ≤ 9223372036854775807) : PartsC w (some ⟨g, 0, none⟩) [bs] := by
  intro k hk
  have : k = 0 := by simpa using hk
  subst this
  exact ⟨g, 0, ad, cap, rfl, c, B, h1, h2⟩
theorem parts_none (w : World) (a : Option Addr) : PartsC w a [] := fun k hk => by simp at hk
theorem bytes_marked (w : World) (arr : Array Value) (bs : List (BitVec 8)) (fr : Nat × Nat) (h : (bcells bs).toArray = arr) : BytesAt (w.alloc (.cells arr 5 fr)) (some ⟨w.heap.size, 0, none⟩) bs := by
  subst h
  intro k hk
  refine ⟨_, 0, rfl, ?_⟩
  rw [Nat.zero_add, cell_of_row _ _ k (bcells bs).toArray 5 fr (heap_alloc_last w _)]
  simpa using bcells_get hk
theorem sha_len (c : List (BitVec 8)) : (sha c).length = 32 := by unfold sha; rw [wordsFlat_len]; rfl
theorem sget {w : World} {g : Nat} {E : List (BitVec 8)} (hE : E.length = 32) (R : Row w g (bcells E) 25) (j : Nat) (hj : j < 32) : w.cell? ⟨g, j, none⟩ = some (.int .u8 (ub (E.getD j 0))) := by
  rw [R.cell j _ (bcells_get (by omega))]
  simp [List.getElem?_eq_getElem (show j < E.length by omega)]

end Go.Proofs.YtaklbofbhanjgaaDoor
