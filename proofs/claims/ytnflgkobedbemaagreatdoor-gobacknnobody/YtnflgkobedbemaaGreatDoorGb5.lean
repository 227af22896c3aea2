import Derived.Test.YtnflgkobedbemaaGreatDoorGb4
namespace Go.Proofs.YtnflgkobedbemaaGreatDoor
open Go.RowKit Go.Maps Go.Sort
set_option maxRecDepth 100000

/-- Which side a number names. -/
def sd (side : Int) : Int := bits BinOp.and IntKind.i64 side 1
def Cf.ob (c : Cf) (s : Int) : Nat := if s = 0 then c.b0 else c.b1
def Cf.pb (c : Cf) (s : Int) : Nat := if s = 0 then c.b1 else c.b0
def Cf.ok (c : Cf) (s : Int) : Nat := if s = 0 then c.k0 else c.k1
def Cf.pk (c : Cf) (s : Int) : Nat := if s = 0 then c.k1 else c.k0
def Cf.F (c : Cf) (s : Int) : Bf := Bf.zero (c.pb s : Int) c.rb c.ga
def Cf.G (c : Cf) (s : Int) : Snd.Sb := Snd.Sb.mk1 (c.ob s : Int) c.sb c.ms ((c.ob s : Int) + c.rb)
/-- A configuration that lies ready: its weights, and its keys are numbers of 64 bits. -/
structure Cf.At (c : Cf) (w : World) : Prop where
  ws : IntsAt w c.wa c.ws
  len : c.ws.length ≤ 140737488355328
  k0 : c.k0 < 18446744073709551616
  k1 : c.k1 < 18446744073709551616
theorem Cf.At.kept {c : Cf} {w w' : World} (h : c.At w) (hb : Below w.heap.size w w') : c.At w' := ⟨h.ws.kept hb, h.len, h.k0, h.k1⟩
theorem enew_yes {w : World} (c : Cf) {n : Nat} (hn : c.ws.length = n) (hA : c.At w) (hF : c.Fit) (hK : Sh.KTab w) (h3 : 3 ≤ w.heap.size) (side : Int) :
    Calls Tryz.prog 28 #[c.val n, .int .i64 side] w fun e w' => ∃ g, e = .returned (.tuple #[.pointer (some ⟨g, 0, none⟩), .int .i64 0]) ∧ OwZ w' g (c.F (sd side)) (c.G (sd side)) (tokN (c.ok (sd side))) (tokN (c.pk (sd side))) ∧ Below w.heap.size w w' ∧ w.heap.size ≤ g := by
  rcases bits_one side with h | h
  · have := enew_yes0 c hn hA.ws (by rw [← hn]; exact hA.len) hF hA.k0 hA.k1 hK h3 side h
    simpa only [Cf.F, Cf.G, Cf.ob, Cf.pb, Cf.ok, Cf.pk, sd, h, if_true, ite_true] using this
  · have := enew_yes1 c hn hA.ws (by rw [← hn]; exact hA.len) hF hA.k0 hA.k1 hK h3 side h
    simpa only [Cf.F, Cf.G, Cf.ob, Cf.pb, Cf.ok, Cf.pk, sd, h, if_neg (show ¬ (1 : Int) = 0 by decide)] using this
/-- A side that has done nothing yet. -/
def enC (g : Nat) (re : Int) : List Value := [.pointer (some ⟨g, 0, none⟩), .int .i64 re, .int .i64 0, .slice none 0 0, .int .u64 0, .int .i64 0, .bool false, .int .u64 0, .int .u64 0, .int .u64 0]
def EnZ (w : World) (p : Nat) (c : Cf) (s : Int) : Prop := ∃ g, Row w p (enC g c.re) 49 ∧ OwZ w g (c.F s) (c.G s) (tokN (c.ok s)) (tokN (c.pk s))
theorem EnZ.kept {w w' : World} {p : Nat} {c : Cf} {s : Int} (h : EnZ w p c s) (hb : Below w.heap.size w w') : EnZ w' p c s := by
  obtain ⟨g, h1, h2⟩ := h
  exact ⟨g, h1.kept hb h1.lt, h2.kept hb⟩
theorem build49 (w : World) (g : Nat) (x : Int) : (Instr.build 49 #[(0, .pointer (some ⟨g, 0, none⟩)), (1, .int .i64 x)]).run Tryz.prog w = .ok (.agg #[.pointer (some ⟨g, 0, none⟩), .int .i64 x, .int .i64 0, .slice none 0 0, .int .u64 0, .int .i64 0, .bool false, .int .u64 0, .int .u64 0, .int .u64 0]) w := by kernel_rfl
set_option maxHeartbeats 4000000 in
theorem gnew_yes {w : World} (c : Cf) {n : Nat} (hn : c.ws.length = n) (hA : c.At w) (hF : c.Fit) (hK : Sh.KTab w) (h3 : 3 ≤ w.heap.size) (side : Int) :
    Calls Tryz.prog 9 #[c.val n, .int .i64 side] w fun e w' => ∃ p, e = .returned (.tuple #[.pointer (some ⟨p, 0, none⟩), .int .i64 0]) ∧ EnZ w' p c (sd side) ∧ Below w.heap.size w w' := by
  have HIN := hid (And.intro hn (And.intro hA (And.intro hF (And.intro hK h3))))
  clear hn hA hF hK h3
  have HV : Hid (c.val n = .agg #[.int .i64 c.pa, .int .i64 c.ms, .int .i64 c.sb, .int .i64 c.rb, .int .i64 c.ga, .int .i64 c.re, .int .i64 c.ba, .int .i64 c.sc, .slice c.wa n c.wc, .int .u64 (c.k0 : Int), .int .u64 (c.k1 : Int), .int .u64 (c.b0 : Int), .int .u64 (c.b1 : Int), .slice c.pa0 c.pl0 c.pc0, .slice c.pa1 c.pl1 c.pc1]) := rfl
  rw [HV.out]
  go_enter Tryz.func9, Tryz.ntmps9
  go_upto_region 1 with fail
  refine wp_world fun wb HW => ?_
  have HRb : Hid (Row wb w.heap.size [.int .i64 c.pa, .int .i64 c.ms, .int .i64 c.sb, .int .i64 c.rb, .int .i64 c.ga, .int .i64 c.re, .int .i64 c.ba, .int .i64 c.sc, .slice c.wa n c.wc, .int .u64 (c.k0 : Int), .int .u64 (c.k1 : Int), .int .u64 (c.b0 : Int), .int .u64 (c.b1 : Int), .slice c.pa0 c.pl0 c.pc0, .slice c.pa1 c.pl1 c.pc1] 28) := by show Row _ _ _ _; rw [HW.out]; exact Row.new _ _ _
  have HBb : Hid (Below w.heap.size w wb) := by show Below _ _ _; rw [HW.out]; exact (Below.refl _ _).alloc (Nat.le_refl _) _
  have HEN := hid (enew_yes (w := wb) c HIN.out.1 (HIN.out.2.1.kept HBb.out) HIN.out.2.2.1 (HIN.out.2.2.2.1.kept HBb.out) (Nat.le_trans HIN.out.2.2.2.2 HBb.out.size) side)
  rw [HV.out] at HEN
  clear HW
  have HI28 : Hid ((Tryz.prog.info? 28).map (·.size) = some 15) := by show _ = _; kernel_rfl
  have hbd := build49
  obtain ⟨z, hz⟩ : ∃ z, z = w.heap.size := ⟨_, rfl⟩
  rw [← hz] at HRb ⊢
  have HQ := hid hz
  clear hz
  go_upto_region 4 with (first
    | (show wpList _ _ _ (Oper.mk (some 9) (.load 28 (.tmp 2)) _ _ _ _ :: _) _ _; refine HRb.out.wpLoad 28 (.tmp 2) rfl rfl rfl _ Tryz.underlying28 rfl HI28.out ?_)
    | (go_at_call 28; refine HEN.out.mono ?_; rintro e W ⟨g, rfl, hO, hbW, hgW⟩; have HOW := hid (And.intro hO hbW); clear hO hbW hgW))
  have r5 := (HRb.out.kept HOW.out.2 HRb.out.lt).cell 5 _ rfl
  go_wp2
  go_ret2
  have hbz : Below W.heap.size W (W.alloc (.cells (enC g c.re).toArray 49)) := Dr.below_new _ _
  refine ⟨W.heap.size, rfl, ⟨g, Row.new' _ _ _ _ _ rfl rfl, HOW.out.1.kept hbz⟩, ?_⟩
  have hb2 := HBb.out.trans (HOW.out.2.mono HBb.out.size)
  exact hb2.trans (hbz.mono hb2.size)
end Go.Proofs.YtnflgkobedbemaaGreatDoor
