import Derived.Test.YtjhkoanjocdboaaDoorOf
import Derived.Lib.SlBytesConst
namespace Go.Proofs.YtjhkoanjocdboaaDoor
open Go.RowKit
set_option maxRecDepth 100000

def abc : List (BitVec 8) := [97#8, 98#8, 99#8]
def nine : List (BitVec 8) := [49#8, 50#8, 51#8, 52#8, 53#8, 54#8, 55#8, 56#8, 57#8]
theorem shaAbc : (sha abc).getD 0 0 = 186#8 ∧ (sha abc).getD 1 0 = 120#8 ∧ (sha abc).getD 31 0 = 173#8 := by decide +kernel
theorem crcNine : crc nine = 3421780262#32 := by decide +kernel
theorem crcNone : crc [] = 0#32 := by decide +kernel

theorem Row.bytesAt {w : World} {g t : Nat} {bs : List (BitVec 8)} (R : Row w g (bcells bs) t) : BytesAt w (some ⟨g, 0, none⟩) bs := fun k hk => ⟨g, 0, rfl, by rw [Nat.zero_add]; exact R.cell k _ (bcells_get hk)⟩
theorem parts_one {w : World} {g cap : Nat} {ad : Option Addr} {bs : List (BitVec 8)} (c : w.cell? ⟨g, 0, none⟩ = some (.slice ad bs.length cap)) (B : BytesAt w ad bs) (h1 : bs.length ≤ cap) (h2 : cap ≤ 281474976710656) : PartsC w (some ⟨g, 0, none⟩) [bs] := by
  intro k hk
  have : k = 0 := by simpa using hk
  subst this
  exact ⟨g, 0, ad, cap, rfl, c, B, h1, h2⟩
theorem parts_none (w : World) (a : Option Addr) : PartsC w a [] := fun k hk => by simp at hk
theorem bytes_marked (w : World) (arr : Array Value) (bs : List (BitVec 8)) (fr : Nat × Nat) (h : (bcells bs).toArray = arr) : BytesAt (w.alloc (.cells arr 5 fr)) (some ⟨w.heap.size, 0, none⟩) bs := by
  subst h
  intro k hk
  refine ⟨_, 0, rfl, ?_⟩
  rw [Nat.zero_add, cell_of_row _ _ k (bcells bs).toArray 5 fr (heap_alloc_last w _)]
  simpa using bcells_get hk
theorem sha_len (c : List (BitVec 8)) : (sha c).length = 32 := by unfold sha; rw [wordsFlat_len]; rfl
theorem sget {w : World} {g : Nat} {E : List (BitVec 8)} (hE : E.length = 32) (R : Row w g (bcells E) 44) (j : Nat) (hj : j < 32) : w.cell? ⟨g, j, none⟩ = some (.int .u8 (ub (E.getD j 0))) := by
  rw [R.cell j _ (bcells_get (by omega))]
  simp [List.getElem?_eq_getElem (show j < E.length by omega)]

set_option maxHeartbeats 800000 in
theorem known_any {w : World} (hK : KTab w) (hC : CrcTab w) (h2 : 2 ≤ w.heap.size) :
    Calls Tryd.prog 20 #[] w fun e w' => e = .returned (.bool true) ∧ Below w.heap.size w w' := by
  have HK : Hid (KTab w) := hK
  have HC : Hid (CrcTab w) := hC
  have H2 : Hid _ := h2
  clear hK hC h2
  go_enter Tryd.func20, Tryd.ntmps20
  have kc := fun (w : World) (C : Array Value) (n c : Nat) => Lib.run_convert_bytes_const w 24 5 C n c Tryd.underlying24 Tryd.underlying5
  go_wp2_with fail
  have HP1 : PartsC ((w.alloc (.cells #[.int .u8 97, .int .u8 98, .int .u8 99] 5 (3, 4))).alloc (.cells #[.slice (some ⟨w.heap.size, 0, none⟩) 3 3] 24)) (some ⟨w.heap.size + 1, 0, none⟩) [abc] :=
    parts_one (ad := some ⟨w.heap.size, 0, none⟩) (cap := 3) (by simp [abc]) ((bytes_marked w _ abc _ rfl).kept ((Below.refl _ _).alloc (Nat.le_refl _) _)) (by decide) (by decide)
  have hB0 : Below w.heap.size w ((w.alloc (.cells #[.int .u8 97, .int .u8 98, .int .u8 99] 5 (3, 4))).alloc (.cells #[.slice (some ⟨w.heap.size, 0, none⟩) 3 3] 24)) := ((Below.refl _ _).alloc (Nat.le_refl _) _).alloc (by simp) _
  refine (of_any (cap := 1) HP1 (by decide) (HK.out.kept hB0) (by simp)).mono ?_
  rintro e w1 ⟨rfl, hb1⟩
  have HB1 : Hid (Below w.heap.size w w1) := hB0.trans (hb1.mono (by simp; omega))
  clear hb1 HP1 hB0
  go_upto_region 2 with (first
    | (show wpList _ _ _ (Oper.mk none (.store 44 (.tmp 1) (.tmp 5)) _ _ _ _ :: _) _ _; refine (Row.new' w1 _ (bcells z32) 44 _ rfl rfl).wpStore' 44 (.tmp 1) (.tmp 5) (bcells (sha [abc].flatten)) rfl rfl rfl rfl (by rw [bcells_len, bcells_len, sha_len]; rfl) (bcells_one _) (by rw [bcells_len, sha_len]; exact i44) ?_; intro wb HW))
  have HRb : Row wb w1.heap.size (bcells (sha [abc].flatten)) 44 := by rw [HW.out]; exact (Row.new' w1 _ (bcells z32) 44 _ rfl rfl).row _
  have HBb : Hid (Below w.heap.size w wb) := by show Below _ _ _; rw [HW.out]; exact Go.below_setRow (HB1.out.alloc HB1.out.size _) HB1.out.size _
  have e3 : [abc].flatten = abc := rfl
  rw [e3] at HRb
  have s0 := sget (sha_len abc) HRb 0 (by decide)
  have s1 := sget (sha_len abc) HRb 1 (by decide)
  have s31 := sget (sha_len abc) HRb 31 (by decide)
  rw [shaAbc.1, show ub 186#8 = 186 from rfl] at s0
  rw [shaAbc.2.1, show ub 120#8 = 120 from rfl] at s1
  rw [shaAbc.2.2, show ub 173#8 = 173 from rfl] at s31
  clear HW HRb e3 HB1
  generalize w1.heap.size = B at *
  have hB0 : Below wb.heap.size wb ((wb.alloc (.cells #[.int .u8 49, .int .u8 50, .int .u8 51, .int .u8 52, .int .u8 53, .int .u8 54, .int .u8 55, .int .u8 56, .int .u8 57] 5 (9, 10))).alloc (.cells #[.slice (some ⟨wb.heap.size, 0, none⟩) 9 9] 24)) := ((Below.refl _ _).alloc (Nat.le_refl _) _).alloc (by simp) _
  have HP1 : PartsC ((wb.alloc (.cells #[.int .u8 49, .int .u8 50, .int .u8 51, .int .u8 52, .int .u8 53, .int .u8 54, .int .u8 55, .int .u8 56, .int .u8 57] 5 (9, 10))).alloc (.cells #[.slice (some ⟨wb.heap.size, 0, none⟩) 9 9] 24)) (some ⟨wb.heap.size + 1, 0, none⟩) [nine] :=
    parts_one (ad := some ⟨wb.heap.size, 0, none⟩) (cap := 9) (by simp [nine]) ((bytes_marked wb _ nine _ rfl).kept ((Below.refl _ _).alloc (Nat.le_refl _) _)) (by decide) (by decide)
  have HCr : Hid (Calls Tryd.prog 11 #[.slice (some ⟨wb.heap.size + 1, 0, none⟩) 1 1] ((wb.alloc (.cells #[.int .u8 49, .int .u8 50, .int .u8 51, .int .u8 52, .int .u8 53, .int .u8 54, .int .u8 55, .int .u8 56, .int .u8 57] 5 (9, 10))).alloc (.cells #[.slice (some ⟨wb.heap.size, 0, none⟩) 9 9] 24)) fun e w' => e = .returned (.int .u32 3421780262) ∧ w' = ((wb.alloc (.cells #[.int .u8 49, .int .u8 50, .int .u8 51, .int .u8 52, .int .u8 53, .int .u8 54, .int .u8 55, .int .u8 56, .int .u8 57] 5 (9, 10))).alloc (.cells #[.slice (some ⟨wb.heap.size, 0, none⟩) 9 9] 24))) := by
    have := crc_any (cap := 1) HP1.at_ ((HC.out.kept HBb.out).kept hB0) (by decide)
    rw [show [nine].flatten = nine from rfl, crcNine] at this
    exact this
  have HCe : Hid (∀ w, CrcTab w → Calls Tryd.prog 11 #[.slice none 0 0] w fun e w' => e = .returned (.int .u32 0) ∧ w' = w) := by
    intro w hc
    have := crc_any (w := w) (a := none) (cap := 0) (ps := []) (parts_none w none).at_ hc (by decide)
    rw [List.flatten_nil, crcNone] at this
    exact this
  have HT : Hid (CrcTab ((wb.alloc (.cells #[.int .u8 49, .int .u8 50, .int .u8 51, .int .u8 52, .int .u8 53, .int .u8 54, .int .u8 55, .int .u8 56, .int .u8 57] 5 (9, 10))).alloc (.cells #[.slice (some ⟨wb.heap.size, 0, none⟩) 9 9] 24))) := (HC.out.kept HBb.out).kept hB0
  have HB0 : Hid _ := HBb.out.trans (hB0.mono HBb.out.size)
  have d0 := cell_kept hB0 s0
  have d1 := cell_kept hB0 s1
  have d31 := cell_kept hB0 s31
  clear HP1 hB0 s0 s1 s31
  simp only [Act.put]
  go_wp2_with fail
  refine Calls.mono HCr.out ?_
  rintro e w' ⟨rfl, rfl⟩
  go_wp2_with (go_at_call 11; refine Calls.mono (HCe.out _ HT.out) ?_; rintro e w' ⟨rfl, rfl⟩)
  go_ret
  exact ⟨rfl, HB0.out⟩
end Go.Proofs.YtjhkoanjocdboaaDoor
