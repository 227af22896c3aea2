import Derived.Test.YtjnmfedefmemnaaLost
import Derived.Lib.SlBytesConst
namespace Go.Proofs.Ytjnmfedefmemnaa
open Go.RowKit
set_option maxRecDepth 100000

theorem roadv_one (C : Int) : ∀ v ∈ roadv C, v.oneCell' = true := by simp [roadv, Value.oneCell']
theorem lane_new {B : Nat} {w w' : World} {p q : Nat} {C : Int} (hB : B ≤ w.heap.size) (hC : 1 ≤ C) (hC2 : C ≤ 1073741824) (h1 : w.heap.size ≤ q) (h2 : q < p) (R : Row w' q (roadv C) 67) (N : Row w' p [.slice (some ⟨q, 0, none⟩) 1 1] 52) {d : Nat} (hd : d < 2) :
    Lane B w' p q 1 0 d true C 0 (roadv C) (.slice none 0 0) [] [] := by
  have hd' : d = 0 ∨ d = 1 := by omega
  exact
    { net := N, row := R, len := rfl, one := roadv_one C, bp := (by omega), bg := (by omega), hk := (by decide), hd := hd, hup := rfl, hcap := rfl
      hput := ⟨0, by rcases hd' with rfl | rfl <;> rfl⟩, hlost := (by rcases hd' with rfl | rfl <;> rfl), htak := ⟨0, by rcases hd' with rfl | rfl <;> rfl⟩, htwi := ⟨0, by rcases hd' with rfl | rfl <;> rfl⟩
      hbag := by rcases hd' with rfl | rfl <;> rfl
      bag := .inl ⟨rfl, rfl⟩, bb := (fun x hx => by cases hx), cap30 := hC2, room := (by simp; omega), cnt := rfl, pk := (fun j q f h => by simp at h), fl := (fun f hf => by cases hf) }
theorem bytes_const (w : World) (bs : List (BitVec 8)) (fr : Nat × Nat) : BytesAt (w.alloc (.cells (bcells bs).toArray 5 fr)) (some ⟨w.heap.size, 0, none⟩) bs := fun k hk => by
  refine ⟨_, _, rfl, ?_⟩
  rw [Nat.zero_add, World.cell?_alloc_mark]
  simpa using bcells_get hk
def ab : List (BitVec 8) := [97#8, 98#8]
def cc : List (BitVec 8) := [99#8]
set_option maxHeartbeats 2000000 in
theorem alive_any (w : World) : Calls Try.prog 16 #[] w fun e w' => e = .returned (.bool true) ∧ Below w.heap.size w w' := by
  have hcc : (w.alloc (.cells #[.int .i64 1] 3)).cell? ⟨w.heap.size, 0, none⟩ = some (.int .i64 1) := (Row.new w [.int .i64 1] 3).cell 0 _ rfl
  have HN := hid (new_one (by decide) (by decide) hcc)
  have HB0 := hid (below_grow (Below.refl w.heap.size w) (.cells #[.int .i64 1] 3))
  clear hcc
  go_enter Try.func16, Try.ntmps16
  go_upto_region 4 with (go_at_call 9; refine Calls.mono HN.out ?_; rintro e w1 ⟨p, q, rfl, hq, hpq, hr, hn, hb⟩; have HLA := hid (lane_new (d := 1) HB0.out.size (by decide) (by decide) hq hpq hr hn (by decide)); have HB1 := hid (HB0.out.trans (hb.mono HB0.out.size)); clear hr hn hb hq hpq)
  clear HN HB0
  have kc := fun (w : World) (C : Array Value) (n c : Nat) => Lib.run_convert_bytes_const (P := Try.prog) w 22 5 C n c Try.underlying22 Try.underlying5
  have HBA := hid (below_grow (Below.refl w1.heap.size w1) (.cells (bcells ab).toArray 5 (2, 3)))
  have HFA := hid (bytes_const w1 ab (2, 3))
  go_upto_region 5 with (go_at_call 10; refine (Lane.put (cap := 2) (HLA.out.kept HBA.out) (by decide) HFA.out rfl (by decide)).mono ?_; rintro e w2 ⟨rfl, c2, v2, qs2, hl2, hs2, ho2, hx2⟩; have HL2 := hid hl2; have HB2 := hid ((HB1.out.trans (HBA.out.mono HB1.out.size)).trans ((HLA.out.kept HBA.out).keeps ho2).below); clear hl2 hs2 ho2 hx2)
  have HL2' : Hid (Lane w.heap.size w2 p q 1 0 1 true 1 0 c2 v2 qs2 [ab]) := HL2.out
  clear HLA HB1 HBA HFA HL2
  have HBC := hid (below_grow (Below.refl w2.heap.size w2) (.cells (bcells cc).toArray 5 (1, 2)))
  go_upto_region 6 with (go_at_call 10; refine (Lane.lost (HL2'.out.kept HBC.out) (.inr (by decide)) (by decide) (by decide) _).mono ?_; rintro e w3 ⟨rfl, c3, hl3, hs3, ho3⟩; have HL3 := hid hl3; have HB3 := hid ((HB2.out.trans (HBC.out.mono HB2.out.size)).trans ((HL2'.out.kept HBC.out).keeps (ho3.wider (fun x hx => by simp at hx; simp [hx]))).below); clear hl3 hs3 ho3)
  clear HL2' HB2 HBC
  go_upto_region 7 with (go_at_call 13; refine (Lane.take (j := 0) HL3.out (by decide)).mono ?_; rintro e w4 ⟨g4, rfl, hg4, hr4, c4, v4, qs4, hl4, hs4, ho4, hx4⟩; have HR4 := hid hr4; have HB4 := hid (HB3.out.trans (HL3.out.keeps ho4).below); clear hl4 hs4 ho4 hx4 hg4 hr4)
  refine wp_world fun w5 HW => ?_
  have HR5 : Hid (Row w5 g4 (bcells ab) 5) := by show Row _ _ _ _; rw [HW.out]; exact HR4.out.alloc _
  have HB5 : Hid (Below w.heap.size w w5) := by show Below _ _ _; rw [HW.out]; exact HB4.out.alloc HB4.out.size _
  have HF5 : Hid (Row w5 w4.heap.size [.slice (some ⟨g4, 0, none⟩) 2 2, .bool false] 32) := by show Row _ _ _ _; rw [HW.out]; exact Row.new' _ _ _ _ _ rfl rfl
  clear HW HR4 HB4 HL3 HB3
  generalize w4.heap.size = fb at *
  have f0 := HF5.out.cell 0 _ rfl
  have f1 := HF5.out.cell 1 _ rfl
  have HBD := hid (below_grow (Below.refl w5.heap.size w5) (.cells (bcells ab).toArray 5 (2, 3)))
  have f1' := cell_kept HBD.out f1
  have HSM := hid (same_any (cap := 2) (cap' := 2) (HR5.out.bytes.kept HBD.out) rfl (bytes_const w5 ab (2, 3)) rfl)
  go_wp2_with (go_at_call 14; refine Calls.mono HSM.out ?_; rintro e w6 ⟨rfl, rfl⟩)
  go_ret
  exact ⟨rfl, HB5.out.alloc HB5.out.size _⟩
end Go.Proofs.Ytjnmfedefmemnaa
