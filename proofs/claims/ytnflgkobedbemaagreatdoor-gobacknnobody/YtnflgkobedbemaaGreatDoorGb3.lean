import Derived.Test.YtnflgkobedbemaaGreatDoorGb1
import Derived.Test.YtnflgkobedbemaaGreatDoorGb2
import Derived.Test.YtnflgkobedbemaaGreatDoorGReg
import Derived.Test.YtnflgkobedbemaaGreatDoorMk0
import Derived.Test.YtnflgkobedbemaaGreatDoorBSb11
import Derived.Test.YtnflgkobedbemaaGreatDoorHJ2
namespace Go.Proofs.YtnflgkobedbemaaGreatDoor
open Go.RowKit Go.Maps Go.Sort
set_option maxRecDepth 100000

/-- A receiving buffer that is new. -/
def RcP (B : Nat) (F : Bf) (v : Value) (w : World) : Prop := ∃ p b, v = .pointer (some ⟨p, 0, none⟩) ∧ BufR w p (.slice none 0 0) b F ∧ B ≤ p
theorem keeps_rcP (B : Nat) (F : Bf) : Dr.Keeps (RcP B F) := fun _ _ _ hb ⟨p, b, e, h, k⟩ => ⟨p, b, e, h.kept hb, k⟩
def RcT (B : Nat) (F : Bf) (v : Value) (w : World) : Prop := ∃ p b, v = .tuple #[.pointer (some ⟨p, 0, none⟩), .int .i64 0] ∧ BufR w p (.slice none 0 0) b F ∧ B ≤ p
theorem keeps_rcT (B : Nat) (F : Bf) : Dr.Keeps (RcT B F) := fun _ _ _ hb ⟨p, b, e, h, k⟩ => ⟨p, b, e, h.kept hb, k⟩
/-- A sending buffer that is new. -/
def SdP (B : Nat) (F : Snd.Sb) (v : Value) (w : World) : Prop := ∃ p, v = .pointer (some ⟨p, 0, none⟩) ∧ Snd.SbW w p F none 0 ∧ B ≤ p
theorem keeps_sdP (B : Nat) (F : Snd.Sb) : Dr.Keeps (SdP B F) := fun _ _ _ hb ⟨p, e, h, k⟩ => ⟨p, e, h.kept hb, k⟩
/-- An owner that has done nothing yet. -/
def owC (q p : Nat) (t0 t1 : BitVec 32) : List Value := [.pointer (some ⟨q, 0, none⟩), .pointer (some ⟨p, 0, none⟩), .int .i64 0, .int .u64 0, .int .u32 (Sh.u t0), .int .u32 (Sh.u t1), .slice none 0 0]
def OwV (F : Bf) (G : Snd.Sb) (t0 t1 : BitVec 32) (v : Value) (w : World) : Prop := ∃ q p b, v = .agg (owC q p t0 t1).toArray ∧ Snd.SbW w q G none 0 ∧ BufR w p (.slice none 0 0) b F
theorem keeps_owV (F : Bf) (G : Snd.Sb) (t0 t1 : BitVec 32) : Dr.Keeps (OwV F G t0 t1) := fun _ _ _ hb ⟨q, p, b, e, h, k⟩ => ⟨q, p, b, e, h.kept hb, k.kept hb⟩
def OwZ (w : World) (g : Nat) (F : Bf) (G : Snd.Sb) (t0 t1 : BitVec 32) : Prop := ∃ q p b, Row w g (owC q p t0 t1) 116 ∧ Snd.SbW w q G none 0 ∧ BufR w p (.slice none 0 0) b F
theorem OwZ.kept {w w' : World} {g : Nat} {F : Bf} {G : Snd.Sb} {t0 t1 : BitVec 32} (h : OwZ w g F G t0 t1) (hb : Below w.heap.size w w') : OwZ w' g F G t0 t1 := by
  obtain ⟨q, p, b, h1, h2, h3⟩ := h
  exact ⟨q, p, b, h1.kept hb h1.lt, h2.kept hb, h3.kept hb⟩
def OwP (B : Nat) (F : Bf) (G : Snd.Sb) (t0 t1 : BitVec 32) (v : Value) (w : World) : Prop := ∃ g, v = .pointer (some ⟨g, 0, none⟩) ∧ OwZ w g F G t0 t1 ∧ B ≤ g
theorem keeps_owP (B : Nat) (F : Bf) (G : Snd.Sb) (t0 t1 : BitVec 32) : Dr.Keeps (OwP B F G t0 t1) := fun _ _ _ hb ⟨g, e, h, k⟩ => ⟨g, e, h.kept hb, k⟩
def tokN (k : Nat) : BitVec 32 := Sh.tokenOf (Sh.sha (Sh.eightL k))
theorem lit62 (t : Array Value) (h : t.size = 62) : ∃ x0 x1 x2 x3 x4 x5 x6 x7 x8 x9 x10 x11 x12 x13 x14 x15 x16 x17 x18 x19 x20 x21 x22 x23 x24 x25 x26 x27 x28 x29 x30 x31 x32 x33 x34 x35 x36 x37 x38 x39 x40 x41 x42 x43 x44 x45 x46 x47 x48 x49 x50 x51 x52 x53 x54 x55 x56 x57 x58 x59 x60 x61, t = #[x0, x1, x2, x3, x4, x5, x6, x7, x8, x9, x10, x11, x12, x13, x14, x15, x16, x17, x18, x19, x20, x21, x22, x23, x24, x25, x26, x27, x28, x29, x30, x31, x32, x33, x34, x35, x36, x37, x38, x39, x40, x41, x42, x43, x44, x45, x46, x47, x48, x49, x50, x51, x52, x53, x54, x55, x56, x57, x58, x59, x60, x61] := by
  obtain ⟨l⟩ := t
  match l, h with
  | x0 :: x1 :: x2 :: x3 :: x4 :: x5 :: x6 :: x7 :: x8 :: x9 :: x10 :: x11 :: x12 :: x13 :: x14 :: x15 :: x16 :: x17 :: x18 :: x19 :: x20 :: x21 :: x22 :: x23 :: x24 :: x25 :: x26 :: x27 :: x28 :: x29 :: x30 :: x31 :: x32 :: x33 :: x34 :: x35 :: x36 :: x37 :: x38 :: x39 :: x40 :: x41 :: x42 :: x43 :: x44 :: x45 :: x46 :: x47 :: x48 :: x49 :: x50 :: x51 :: x52 :: x53 :: x54 :: x55 :: x56 :: x57 :: x58 :: x59 :: x60 :: x61 :: [], _ => exact ⟨x0, x1, x2, x3, x4, x5, x6, x7, x8, x9, x10, x11, x12, x13, x14, x15, x16, x17, x18, x19, x20, x21, x22, x23, x24, x25, x26, x27, x28, x29, x30, x31, x32, x33, x34, x35, x36, x37, x38, x39, x40, x41, x42, x43, x44, x45, x46, x47, x48, x49, x50, x51, x52, x53, x54, x55, x56, x57, x58, x59, x60, x61, rfl⟩
/-- What the bounds of a configuration give. -/
structure FitFacts (c : Cf) : Prop where
  pb0 : (c.b0 : Int) ≤ 4611686018427387904
  pb1 : (c.b1 : Int) ≤ 4611686018427387904
  r0 : 1 ≤ c.rb
  r1 : c.rb ≤ 1073741824
  g0 : 1 ≤ c.ga
  g1 : c.ga ≤ 64
  e0a : 0 ≤ (c.b0 : Int) + c.rb
  e0b : (c.b0 : Int) + c.rb ≤ 18446744073709551615
  e1a : 0 ≤ (c.b1 : Int) + c.rb
  e1b : (c.b1 : Int) + c.rb ≤ 18446744073709551615
  m0 : min (c.b0 : Int) 4611686018427387904 = c.b0
  m1 : min (c.b1 : Int) 4611686018427387904 = c.b1
  ms : max 1 (min c.sb 65536) = c.sb
  mm : max 1 (min c.ms 1024) = c.ms
  k0 : c.k0 < 18446744073709551616
  k1 : c.k1 < 18446744073709551616
  w0 : IntKind.u64.wrap c.rb = c.rb
  w1 : IntKind.u64.wrap ((c.b0 : Int) + c.rb) = (c.b0 : Int) + c.rb
  w2 : IntKind.u64.wrap ((c.b1 : Int) + c.rb) = (c.b1 : Int) + c.rb
theorem fitFacts {c : Cf} (h : c.Fit) (k0 : c.k0 < 18446744073709551616) (k1 : c.k1 < 18446744073709551616) : FitFacts c := by
  have h1 := h.1
  have hw : ∀ x : Int, 0 ≤ x → x ≤ 18446744073709551615 → IntKind.u64.wrap x = x := fun x a b => by unfold IntKind.wrap; simp [IntKind.bits, IntKind.signed]; omega
  exact ⟨by omega, by omega, by omega, by omega, by omega, by omega, by omega, by omega, by omega, by omega, by omega, by omega, by omega, by omega, k0, k1, hw _ (by omega) (by omega), hw _ (by omega) (by omega), hw _ (by omega) (by omega)⟩
theorem fit_zero {c : Cf} {e : Ending} (h : FitAns c e) (hF : c.Fit) : e = .returned (.int .i64 0) := by
  rcases h with h | h
  · exact h.1
  · exact absurd hF h.2
set_option maxHeartbeats 8000000 in
theorem enew_yes0 {w : World} (c : Cf) {n : Nat} (hn : c.ws.length = n) (hI : IntsAt w c.wa c.ws) (hl : n ≤ 140737488355328) (hF : c.Fit) (hk0 : c.k0 < 18446744073709551616) (hk1 : c.k1 < 18446744073709551616) (hK : Sh.KTab w) (h3 : 3 ≤ w.heap.size) (side : Int) (hs : bits BinOp.and IntKind.i64 side 1 = 0) :
    Calls Tryz.prog 28 #[c.val n, .int .i64 side] w fun e w' => ∃ g, e = .returned (.tuple #[.pointer (some ⟨g, 0, none⟩), .int .i64 0]) ∧ OwZ w' g (Bf.zero (c.b1 : Int) c.rb c.ga) (Snd.Sb.mk1 (c.b0 : Int) c.sb c.ms ((c.b0 : Int) + c.rb)) (tokN c.k0) (tokN c.k1) ∧ Below w.heap.size w w' ∧ w.heap.size ≤ g := by
  have HFT := hid (fitFacts hF hk0 hk1)
  have HIN := hid (And.intro hn (And.intro hI (And.intro hl hF)))
  have HK := hid hK
  have H3 := hid h3
  clear hn hI hl hF hK h3 hk0 hk1
  have HV : Hid (c.val n = .agg #[.int .i64 c.pa, .int .i64 c.ms, .int .i64 c.sb, .int .i64 c.rb, .int .i64 c.ga, .int .i64 c.re, .int .i64 c.ba, .int .i64 c.sc, .slice c.wa n c.wc, .int .u64 (c.k0 : Int), .int .u64 (c.k1 : Int), .int .u64 (c.b0 : Int), .int .u64 (c.b1 : Int), .slice c.pa0 c.pl0 c.pc0, .slice c.pa1 c.pl1 c.pc1]) := rfl
  rw [HV.out]
  go_enter Tryz.func28, Tryz.ntmps28
  go_upto_region 1 with fail
  refine wp_world fun wb HW => ?_
  have HRb : Hid (Row wb w.heap.size [.int .i64 c.pa, .int .i64 c.ms, .int .i64 c.sb, .int .i64 c.rb, .int .i64 c.ga, .int .i64 c.re, .int .i64 c.ba, .int .i64 c.sc, .slice c.wa n c.wc, .int .u64 (c.k0 : Int), .int .u64 (c.k1 : Int), .int .u64 (c.b0 : Int), .int .u64 (c.b1 : Int), .slice c.pa0 c.pl0 c.pc0, .slice c.pa1 c.pl1 c.pc1] 28) := by show Row _ _ _ _; rw [HW.out]; exact Row.new _ _ _
  have HBb : Hid (Below w.heap.size w wb) := by show Below _ _ _; rw [HW.out]; exact (Below.refl _ _).alloc (Nat.le_refl _) _
  have HKb := hid (HK.out.kept HBb.out)
  have H3b : Hid (3 ≤ wb.heap.size) := Nat.le_trans H3.out HBb.out.size
  have HLT := hid HRb.out.lt
  have HFI := hid (fit_any (w := wb) c HIN.out.1 (HIN.out.2.1.kept HBb.out) HIN.out.2.2.1)
  rw [HV.out] at HFI
  clear HW HK H3
  obtain ⟨g, hg⟩ : ∃ g, g = w.heap.size := ⟨_, rfl⟩
  rw [← hg] at HRb HLT ⊢
  have HG := hid hg
  clear hg
  have HI28 : Hid ((Tryz.prog.info? 28).map (·.size) = some 15) := by show _ = _; kernel_rfl
  go_upto_region 6 with (first
    | (show wpList _ _ _ (Oper.mk (some 11) (.load 28 (.tmp 2)) _ _ _ _ :: _) _ _; refine HRb.out.wpLoad 28 (.tmp 2) rfl rfl rfl _ Tryz.underlying28 rfl HI28.out ?_)
    | (go_at_call 71; refine HFI.out.mono ?_; rintro e W ⟨hfa, hbW⟩; obtain rfl : e = .returned (.int .i64 0) := fit_zero hfa HIN.out.2.2.2; have HBW0 := hid hbW; clear hfa hbW))
  rw [hs] at *
  have HBW : Hid (Below w.heap.size w W) := by show Below _ _ _; exact HBb.out.trans (HBW0.out.mono HBb.out.size)
  have HR := hid (HRb.out.kept HBW0.out HRb.out.lt)
  have HKW := hid (HKb.out.kept HBW0.out)
  have H3W : Hid (3 ≤ W.heap.size) := Nat.le_trans H3b.out HBW0.out.size
  clear HBW0 HRb HKb H3b HLT HFI HV HIN HBb
  refine Dr.wp_act fun A HF => ?_
  have F2 : Hid (A.tmps[2]? = some (.pointer (some ⟨g, 0, none⟩))) := by show _ = _; rw [HF.out]; rfl
  have F4 : Hid (A.tmps[4]? = some (.pointer none)) := by show _ = _; rw [HF.out]; rfl
  have F5 : Hid (A.tmps[5]? = some (.int .i64 0)) := by show _ = _; rw [HF.out]; rfl
  have F7 : Hid (A.tmps[7]? = some (.int .i64 0)) := by show _ = _; rw [HF.out]; rfl
  have F8 : Hid (A.tmps[8]? = some (.int .i64 1)) := by show _ = _; rw [HF.out]; rfl
  have FS : Hid (A.tmps.size = 62) := by show _ = _; rw [HF.out]; rfl
  have FD : Hid (A.defers = []) := by show _ = _; rw [HF.out]
  clear HF
  have KP : Hid (∀ f ∈ ([Dr.Is (.int .i64 1), Dr.Is (.pointer (some ⟨g, 11, none⟩)), Dr.Is (.pointer (some ⟨g, 12, none⟩)), Dr.Is (.int .u64 (c.b1 : Int)), Dr.Is (.pointer (some ⟨g, 3, none⟩)), Dr.Is (.int .i64 c.rb), Dr.Is (.pointer (some ⟨g, 4, none⟩)), Dr.Is (.int .i64 c.ga), (RcT W.heap.size (Bf.zero (c.b1 : Int) c.rb c.ga)), (RcT W.heap.size (Bf.zero (c.b1 : Int) c.rb c.ga)), (RcP W.heap.size (Bf.zero (c.b1 : Int) c.rb c.ga)), Dr.Is (.int .i64 0), (RcP W.heap.size (Bf.zero (c.b1 : Int) c.rb c.ga)), Dr.Is (.int .i64 0)] : List (Value → World → Prop)), Dr.Keeps f) := by
    intro f hf
    simp only [List.mem_cons, List.not_mem_nil, or_false] at hf
    rcases hf with rfl | rfl | rfl | rfl | rfl | rfl | rfl | rfl | rfl | rfl | rfl | rfl | rfl | rfl
    · exact Dr.keeps_is _
    · exact Dr.keeps_is _
    · exact Dr.keeps_is _
    · exact Dr.keeps_is _
    · exact Dr.keeps_is _
    · exact Dr.keeps_is _
    · exact Dr.keeps_is _
    · exact Dr.keeps_is _
    · exact keeps_rcT _ _
    · exact keeps_rcT _ _
    · exact keeps_rcP _ _
    · exact Dr.keeps_is _
    · exact keeps_rcP _ _
    · exact Dr.keeps_is _
  refine wp_region_any (by kernel_rfl) ?_
  refine Dr.wpAny_spec (fun _ wx => Below W.heap.size W wx) (Dr.Sps [Dr.Is (.int .i64 1), Dr.Is (.pointer (some ⟨g, 11, none⟩)), Dr.Is (.pointer (some ⟨g, 12, none⟩)), Dr.Is (.int .u64 (c.b1 : Int)), Dr.Is (.pointer (some ⟨g, 3, none⟩)), Dr.Is (.int .i64 c.rb), Dr.Is (.pointer (some ⟨g, 4, none⟩)), Dr.Is (.int .i64 c.ga), (RcT W.heap.size (Bf.zero (c.b1 : Int) c.rb c.ga)), (RcT W.heap.size (Bf.zero (c.b1 : Int) c.rb c.ga)), (RcP W.heap.size (Bf.zero (c.b1 : Int) c.rb c.ga)), Dr.Is (.int .i64 0), (RcP W.heap.size (Bf.zero (c.b1 : Int) c.rb c.ga)), Dr.Is (.int .i64 0)]) (below_drawn (Below.refl _ _) _) ?step6 ?fin6
  case fin6 =>
    intro l af wx h hr0
    have hall := Dr.ready_all h.len (by decide +kernel) hr0
    obtain ⟨v9, hv9, s9⟩ := h.new 12 _ 9 (hall 12 (by decide)) rfl rfl
    obtain ⟨pr, br, rfl, hr, kr⟩ : (RcP W.heap.size (Bf.zero (c.b1 : Int) c.rb c.ga)) v9 wx := s9.get rfl
    have h2 := (h.oldt (t := 2) (by decide +kernel) F2.out)
    have h7 := (h.oldt (t := 7) (by decide +kernel) F7.out)
    have h8 := (h.oldt (t := 8) (by decide +kernel) F8.out)
    have h4 := (h.oldt (t := 4) (by decide +kernel) F4.out)
    have h5 := (h.oldt (t := 5) (by decide +kernel) F5.out)
    have hsz : af.tmps.size = 62 := h.size.trans FS.out
    have hdf : af.defers = [] := h.defers.trans FD.out
    have HB6 := hid h.bel
    clear h hall s9 hr0
    obtain ⟨x0, x1, x2, x3, x4, x5, x6, x7, x8, x9, x10, x11, x12, x13, x14, x15, x16, x17, x18, x19, x20, x21, x22, x23, x24, x25, x26, x27, x28, x29, x30, x31, x32, x33, x34, x35, x36, x37, x38, x39, x40, x41, x42, x43, x44, x45, x46, x47, x48, x49, x50, x51, x52, x53, x54, x55, x56, x57, x58, x59, x60, x61, et⟩ := lit62 af.tmps hsz
    obtain rfl : af = { tmps := #[x0, x1, x2, x3, x4, x5, x6, x7, x8, x9, x10, x11, x12, x13, x14, x15, x16, x17, x18, x19, x20, x21, x22, x23, x24, x25, x26, x27, x28, x29, x30, x31, x32, x33, x34, x35, x36, x37, x38, x39, x40, x41, x42, x43, x44, x45, x46, x47, x48, x49, x50, x51, x52, x53, x54, x55, x56, x57, x58, x59, x60, x61], defers := [] } := by cases af; simp_all
    obtain rfl : x2 = .pointer (some ⟨g, 0, none⟩) := by simpa using h2
    obtain rfl : x7 = .int .i64 0 := by simpa using h7
    obtain rfl : x8 = .int .i64 1 := by simpa using h8
    obtain rfl : x4 = .pointer none := by simpa using h4
    obtain rfl : x5 = .int .i64 0 := by simpa using h5
    obtain rfl : x9 = .pointer (some ⟨pr, 0, none⟩) := by simpa using hv9
    clear et hsz hdf h2 h7 h8 h4 h5 hv9
    show Exit.then _ _ Exit.normal ({ tmps := #[x0, x1, .pointer (some ⟨g, 0, none⟩), x3, .pointer none, .int .i64 0, x6, .int .i64 0, .int .i64 1, .pointer (some ⟨pr, 0, none⟩), x10, x11, x12, x13, x14, x15, x16, x17, x18, x19, x20, x21, x22, x23, x24, x25, x26, x27, x28, x29, x30, x31, x32, x33, x34, x35, x36, x37, x38, x39, x40, x41, x42, x43, x44, x45, x46, x47, x48, x49, x50, x51, x52, x53, x54, x55, x56, x57, x58, x59, x60, x61], defers := [] } : Act) wx
    have HBF := hid (HBW.out.trans (HB6.out.mono HBW.out.size))
    have HRX := hid (HR.out.kept HB6.out HR.out.lt)
    have HRC := hid hr
    have HKX := hid (HKW.out.kept HB6.out)
    have H3X : Hid (3 ≤ wx.heap.size) := Nat.le_trans H3W.out HB6.out.size
    clear hr kr HB6 HBW HR HKW H3W KP F2 F4 F5 F7 F8 FS FD
    clear W A
    go_upto_region 7 with fail
    refine wp_world fun W HW => ?_
    obtain rfl := HW.out
    clear HW
    refine Dr.wp_act fun A HF => ?_
    have F2 : Hid (A.tmps[2]? = some (.pointer (some ⟨g, 0, none⟩))) := by show _ = _; rw [HF.out]; rfl
    have F7 : Hid (A.tmps[7]? = some (.int .i64 0)) := by show _ = _; rw [HF.out]; rfl
    have F8 : Hid (A.tmps[8]? = some (.int .i64 1)) := by show _ = _; rw [HF.out]; rfl
    have F9 : Hid (A.tmps[9]? = some (.pointer (some ⟨pr, 0, none⟩))) := by show _ = _; rw [HF.out]; rfl
    have FS : Hid (A.tmps.size = 62) := by show _ = _; rw [HF.out]; rfl
    have FD : Hid (A.defers = []) := by show _ = _; rw [HF.out]
    clear HF
    have KP : Hid (∀ f ∈ ([Dr.Is (.int .i64 0), Dr.Is (.pointer (some ⟨g, 11, none⟩)), Dr.Is (.pointer (some ⟨g, 11, none⟩)), Dr.Is (.int .u64 (c.b0 : Int)), Dr.Is (.pointer (some ⟨g, 2, none⟩)), Dr.Is (.int .i64 c.sb), Dr.Is (.pointer (some ⟨g, 1, none⟩)), Dr.Is (.int .i64 c.ms), Dr.Is (.int .i64 0), Dr.Is (.pointer (some ⟨g, 11, none⟩)), Dr.Is (.pointer (some ⟨g, 11, none⟩)), Dr.Is (.int .u64 (c.b0 : Int)), Dr.Is (.pointer (some ⟨g, 3, none⟩)), Dr.Is (.int .i64 c.rb), Dr.Is (.int .u64 c.rb), Dr.Is (.int .u64 ((c.b0 : Int) + c.rb)), (SdP W.heap.size (Snd.Sb.mk1 (c.b0 : Int) c.sb c.ms ((c.b0 : Int) + c.rb))), Dr.Is (.pointer (some ⟨pr, 0, none⟩)), Dr.Is (.int .i64 0), Dr.Is (.pointer (some ⟨g, 9, none⟩)), Dr.Is (.pointer (some ⟨g, 9, none⟩)), Dr.Is (.int .u64 (c.k0 : Int)), Dr.Is (.int .u32 (Sh.u (tokN c.k0))), Dr.Is (.int .i64 1), Dr.Is (.pointer (some ⟨g, 9, none⟩)), Dr.Is (.pointer (some ⟨g, 10, none⟩)), Dr.Is (.int .u64 (c.k1 : Int)), Dr.Is (.int .u32 (Sh.u (tokN c.k1))), (OwV (Bf.zero (c.b1 : Int) c.rb c.ga) (Snd.Sb.mk1 (c.b0 : Int) c.sb c.ms ((c.b0 : Int) + c.rb)) (tokN c.k0) (tokN c.k1)), (OwP W.heap.size (Bf.zero (c.b1 : Int) c.rb c.ga) (Snd.Sb.mk1 (c.b0 : Int) c.sb c.ms ((c.b0 : Int) + c.rb)) (tokN c.k0) (tokN c.k1)), (OwP W.heap.size (Bf.zero (c.b1 : Int) c.rb c.ga) (Snd.Sb.mk1 (c.b0 : Int) c.sb c.ms ((c.b0 : Int) + c.rb)) (tokN c.k0) (tokN c.k1)), Dr.Is (.int .i64 0)] : List (Value → World → Prop)), Dr.Keeps f) := by
      intro f hf
      simp only [List.mem_cons, List.not_mem_nil, or_false] at hf
      rcases hf with rfl | rfl | rfl | rfl | rfl | rfl | rfl | rfl | rfl | rfl | rfl | rfl | rfl | rfl | rfl | rfl | rfl | rfl | rfl | rfl | rfl | rfl | rfl | rfl | rfl | rfl | rfl | rfl | rfl | rfl | rfl | rfl
      · exact Dr.keeps_is _
      · exact Dr.keeps_is _
      · exact Dr.keeps_is _
      · exact Dr.keeps_is _
      · exact Dr.keeps_is _
      · exact Dr.keeps_is _
      · exact Dr.keeps_is _
      · exact Dr.keeps_is _
      · exact Dr.keeps_is _
      · exact Dr.keeps_is _
      · exact Dr.keeps_is _
      · exact Dr.keeps_is _
      · exact Dr.keeps_is _
      · exact Dr.keeps_is _
      · exact Dr.keeps_is _
      · exact Dr.keeps_is _
      · exact keeps_sdP _ _
      · exact Dr.keeps_is _
      · exact Dr.keeps_is _
      · exact Dr.keeps_is _
      · exact Dr.keeps_is _
      · exact Dr.keeps_is _
      · exact Dr.keeps_is _
      · exact Dr.keeps_is _
      · exact Dr.keeps_is _
      · exact Dr.keeps_is _
      · exact Dr.keeps_is _
      · exact Dr.keeps_is _
      · exact keeps_owV _ _ _ _
      · exact keeps_owP _ _ _ _ _
      · exact keeps_owP _ _ _ _ _
      · exact Dr.keeps_is _
    refine wp_region_any (by kernel_rfl) ?_
    refine Dr.wpAny_spec (fun _ wx => Below W.heap.size W wx) (Dr.Sps [Dr.Is (.int .i64 0), Dr.Is (.pointer (some ⟨g, 11, none⟩)), Dr.Is (.pointer (some ⟨g, 11, none⟩)), Dr.Is (.int .u64 (c.b0 : Int)), Dr.Is (.pointer (some ⟨g, 2, none⟩)), Dr.Is (.int .i64 c.sb), Dr.Is (.pointer (some ⟨g, 1, none⟩)), Dr.Is (.int .i64 c.ms), Dr.Is (.int .i64 0), Dr.Is (.pointer (some ⟨g, 11, none⟩)), Dr.Is (.pointer (some ⟨g, 11, none⟩)), Dr.Is (.int .u64 (c.b0 : Int)), Dr.Is (.pointer (some ⟨g, 3, none⟩)), Dr.Is (.int .i64 c.rb), Dr.Is (.int .u64 c.rb), Dr.Is (.int .u64 ((c.b0 : Int) + c.rb)), (SdP W.heap.size (Snd.Sb.mk1 (c.b0 : Int) c.sb c.ms ((c.b0 : Int) + c.rb))), Dr.Is (.pointer (some ⟨pr, 0, none⟩)), Dr.Is (.int .i64 0), Dr.Is (.pointer (some ⟨g, 9, none⟩)), Dr.Is (.pointer (some ⟨g, 9, none⟩)), Dr.Is (.int .u64 (c.k0 : Int)), Dr.Is (.int .u32 (Sh.u (tokN c.k0))), Dr.Is (.int .i64 1), Dr.Is (.pointer (some ⟨g, 9, none⟩)), Dr.Is (.pointer (some ⟨g, 10, none⟩)), Dr.Is (.int .u64 (c.k1 : Int)), Dr.Is (.int .u32 (Sh.u (tokN c.k1))), (OwV (Bf.zero (c.b1 : Int) c.rb c.ga) (Snd.Sb.mk1 (c.b0 : Int) c.sb c.ms ((c.b0 : Int) + c.rb)) (tokN c.k0) (tokN c.k1)), (OwP W.heap.size (Bf.zero (c.b1 : Int) c.rb c.ga) (Snd.Sb.mk1 (c.b0 : Int) c.sb c.ms ((c.b0 : Int) + c.rb)) (tokN c.k0) (tokN c.k1)), (OwP W.heap.size (Bf.zero (c.b1 : Int) c.rb c.ga) (Snd.Sb.mk1 (c.b0 : Int) c.sb c.ms ((c.b0 : Int) + c.rb)) (tokN c.k0) (tokN c.k1)), Dr.Is (.int .i64 0)]) (below_drawn (Below.refl _ _) _) ?step7 ?fin7
    case fin7 =>
      intro l af wx h hr0
      have hall := Dr.ready_all h.len (by decide +kernel) hr0
      obtain ⟨v4, hv4, s4⟩ := h.new 30 _ 4 (hall 30 (by decide)) rfl rfl
      obtain ⟨gw, rfl, hw, kw⟩ : (OwP W.heap.size (Bf.zero (c.b1 : Int) c.rb c.ga) (Snd.Sb.mk1 (c.b0 : Int) c.sb c.ms ((c.b0 : Int) + c.rb)) (tokN c.k0) (tokN c.k1)) v4 wx := s4.get rfl
      obtain ⟨v5, hv5, s5⟩ := h.new 31 _ 5 (hall 31 (by decide)) rfl rfl
      obtain rfl : v5 = .int .i64 0 := s5.get rfl
      have hsz : af.tmps.size = 62 := h.size.trans FS.out
      have hdf : af.defers = [] := h.defers.trans FD.out
      have HBZ := hid (HBF.out.trans (h.bel.mono HBF.out.size))
      have HOW := hid (And.intro hw (Nat.le_trans HBF.out.size kw))
      clear h hall s4 s5 hw kw hr0
      obtain ⟨x0, x1, x2, x3, x4, x5, x6, x7, x8, x9, x10, x11, x12, x13, x14, x15, x16, x17, x18, x19, x20, x21, x22, x23, x24, x25, x26, x27, x28, x29, x30, x31, x32, x33, x34, x35, x36, x37, x38, x39, x40, x41, x42, x43, x44, x45, x46, x47, x48, x49, x50, x51, x52, x53, x54, x55, x56, x57, x58, x59, x60, x61, et⟩ := lit62 af.tmps hsz
      obtain rfl : af = { tmps := #[x0, x1, x2, x3, x4, x5, x6, x7, x8, x9, x10, x11, x12, x13, x14, x15, x16, x17, x18, x19, x20, x21, x22, x23, x24, x25, x26, x27, x28, x29, x30, x31, x32, x33, x34, x35, x36, x37, x38, x39, x40, x41, x42, x43, x44, x45, x46, x47, x48, x49, x50, x51, x52, x53, x54, x55, x56, x57, x58, x59, x60, x61], defers := [] } := by cases af; simp_all
      obtain rfl : x4 = .pointer (some ⟨gw, 0, none⟩) := by simpa using hv4
      obtain rfl : x5 = .int .i64 0 := by simpa using hv5
      clear et hsz hdf hv4 hv5
      show Exit.then _ _ Exit.normal ({ tmps := #[x0, x1, x2, x3, .pointer (some ⟨gw, 0, none⟩), .int .i64 0, x6, x7, x8, x9, x10, x11, x12, x13, x14, x15, x16, x17, x18, x19, x20, x21, x22, x23, x24, x25, x26, x27, x28, x29, x30, x31, x32, x33, x34, x35, x36, x37, x38, x39, x40, x41, x42, x43, x44, x45, x46, x47, x48, x49, x50, x51, x52, x53, x54, x55, x56, x57, x58, x59, x60, x61], defers := [] } : Act) wx
      go_wp2_with fail
      go_ret2
      exact ⟨gw, rfl, HOW.out.1, HBZ.out, HOW.out.2⟩
    case step7 =>
      intro l af wx i h hiN hm
      have hiN : i < 32 := hiN
      have hR := HRX.out.kept h.bel HRX.out.lt
      have hKx := HKX.out.kept h.bel
      have h3x := Nat.le_trans H3X.out h.bel.size
      rcases (show i = 0 ∨ i = 1 ∨ i = 2 ∨ i = 3 ∨ i = 4 ∨ i = 5 ∨ i = 6 ∨ i = 7 ∨ i = 8 ∨ i = 9 ∨ i = 10 ∨ i = 11 ∨ i = 12 ∨ i = 13 ∨ i = 14 ∨ i = 15 ∨ i = 16 ∨ i = 17 ∨ i = 18 ∨ i = 19 ∨ i = 20 ∨ i = 21 ∨ i = 22 ∨ i = 23 ∨ i = 24 ∨ i = 25 ∨ i = 26 ∨ i = 27 ∨ i = 28 ∨ i = 29 ∨ i = 30 ∨ i = 31 by omega) with rfl | rfl | rfl | rfl | rfl | rfl | rfl | rfl | rfl | rfl | rfl | rfl | rfl | rfl | rfl | rfl | rfl | rfl | rfl | rfl | rfl | rfl | rfl | rfl | rfl | rfl | rfl | rfl | rfl | rfl | rfl | rfl
      · refine Dr.wpOp_of rfl rfl ?_
        have ea : af.eval (.tmp 7) = .int .i64 0 := h.oldv (t := 7) (by decide +kernel) F7.out
        refine Dr.step_value (v := .int .i64 0) (w' := wx) (by generalize af.eval = r at *; simp [execOp, ea, go_sem]) ?_
        exact h.step rfl rfl (by rw [FS.out]; decide) (by decide +kernel) ⟨_, rfl, rfl⟩ h.bel (fun _ _ _ q => q)
      · refine Dr.wpOp_of rfl rfl ?_
        have ea : af.eval (.tmp 2) = .pointer (some ⟨g, 0, none⟩) := h.oldv (t := 2) (by decide +kernel) F2.out
        refine Dr.step_value (v := .pointer (some ⟨g, 11, none⟩)) (w' := wx) (by generalize af.eval = r at *; simp [execOp, ea, go_sem]) ?_
        exact h.step rfl rfl (by rw [FS.out]; decide) (by decide +kernel) ⟨_, rfl, rfl⟩ h.bel (fun _ _ _ q => q)
      · refine Dr.wpOp_of rfl rfl ?_
        obtain ⟨va, ea, sa⟩ := h.val hm rfl (j := 1) rfl rfl (by decide +kernel)
        obtain rfl : va = .pointer (some ⟨g, 11, none⟩) := sa.get rfl
        obtain ⟨vb, eb, sb⟩ := h.val hm rfl (j := 0) rfl rfl (by decide +kernel)
        obtain rfl : vb = .int .i64 0 := sb.get rfl
        refine Dr.step_value (v := .pointer (some ⟨g, 11, none⟩)) (w' := wx) (by generalize af.eval = r at *; simp [execOp, ea, eb, go_sem]) ?_
        exact h.step rfl rfl (by rw [FS.out]; decide) (by decide +kernel) ⟨_, rfl, rfl⟩ h.bel (fun _ _ _ q => q)
      · refine Dr.wpOp_of rfl rfl ?_
        obtain ⟨va, ea, sa⟩ := h.val hm rfl (j := 2) rfl rfl (by decide +kernel)
        obtain rfl : va = .pointer (some ⟨g, 11, none⟩) := sa.get rfl
        have hc := hR.cell 11 _ rfl
        refine Dr.step_value (v := .int .u64 (c.b0 : Int)) (w' := wx) (by generalize af.eval = r at *; simp [execOp, ea, hc, go_sem]) ?_
        exact h.step rfl rfl (by rw [FS.out]; decide) (by decide +kernel) ⟨_, rfl, rfl⟩ h.bel (fun _ _ _ q => q)
      · refine Dr.wpOp_of rfl rfl ?_
        have ea : af.eval (.tmp 2) = .pointer (some ⟨g, 0, none⟩) := h.oldv (t := 2) (by decide +kernel) F2.out
        refine Dr.step_value (v := .pointer (some ⟨g, 2, none⟩)) (w' := wx) (by generalize af.eval = r at *; simp [execOp, ea, go_sem]) ?_
        exact h.step rfl rfl (by rw [FS.out]; decide) (by decide +kernel) ⟨_, rfl, rfl⟩ h.bel (fun _ _ _ q => q)
      · refine Dr.wpOp_of rfl rfl ?_
        obtain ⟨va, ea, sa⟩ := h.val hm rfl (j := 4) rfl rfl (by decide +kernel)
        obtain rfl : va = .pointer (some ⟨g, 2, none⟩) := sa.get rfl
        have hc := hR.cell 2 _ rfl
        refine Dr.step_value (v := .int .i64 c.sb) (w' := wx) (by generalize af.eval = r at *; simp [execOp, ea, hc, go_sem]) ?_
        exact h.step rfl rfl (by rw [FS.out]; decide) (by decide +kernel) ⟨_, rfl, rfl⟩ h.bel (fun _ _ _ q => q)
      · refine Dr.wpOp_of rfl rfl ?_
        have ea : af.eval (.tmp 2) = .pointer (some ⟨g, 0, none⟩) := h.oldv (t := 2) (by decide +kernel) F2.out
        refine Dr.step_value (v := .pointer (some ⟨g, 1, none⟩)) (w' := wx) (by generalize af.eval = r at *; simp [execOp, ea, go_sem]) ?_
        exact h.step rfl rfl (by rw [FS.out]; decide) (by decide +kernel) ⟨_, rfl, rfl⟩ h.bel (fun _ _ _ q => q)
      · refine Dr.wpOp_of rfl rfl ?_
        obtain ⟨va, ea, sa⟩ := h.val hm rfl (j := 6) rfl rfl (by decide +kernel)
        obtain rfl : va = .pointer (some ⟨g, 1, none⟩) := sa.get rfl
        have hc := hR.cell 1 _ rfl
        refine Dr.step_value (v := .int .i64 c.ms) (w' := wx) (by generalize af.eval = r at *; simp [execOp, ea, hc, go_sem]) ?_
        exact h.step rfl rfl (by rw [FS.out]; decide) (by decide +kernel) ⟨_, rfl, rfl⟩ h.bel (fun _ _ _ q => q)
      · refine Dr.wpOp_of rfl rfl ?_
        have ea : af.eval (.tmp 7) = .int .i64 0 := h.oldv (t := 7) (by decide +kernel) F7.out
        refine Dr.step_value (v := .int .i64 0) (w' := wx) (by generalize af.eval = r at *; simp [execOp, ea, go_sem]) ?_
        exact h.step rfl rfl (by rw [FS.out]; decide) (by decide +kernel) ⟨_, rfl, rfl⟩ h.bel (fun _ _ _ q => q)
      · refine Dr.wpOp_of rfl rfl ?_
        have ea : af.eval (.tmp 2) = .pointer (some ⟨g, 0, none⟩) := h.oldv (t := 2) (by decide +kernel) F2.out
        refine Dr.step_value (v := .pointer (some ⟨g, 11, none⟩)) (w' := wx) (by generalize af.eval = r at *; simp [execOp, ea, go_sem]) ?_
        exact h.step rfl rfl (by rw [FS.out]; decide) (by decide +kernel) ⟨_, rfl, rfl⟩ h.bel (fun _ _ _ q => q)
      · refine Dr.wpOp_of rfl rfl ?_
        obtain ⟨va, ea, sa⟩ := h.val hm rfl (j := 9) rfl rfl (by decide +kernel)
        obtain rfl : va = .pointer (some ⟨g, 11, none⟩) := sa.get rfl
        obtain ⟨vb, eb, sb⟩ := h.val hm rfl (j := 8) rfl rfl (by decide +kernel)
        obtain rfl : vb = .int .i64 0 := sb.get rfl
        refine Dr.step_value (v := .pointer (some ⟨g, 11, none⟩)) (w' := wx) (by generalize af.eval = r at *; simp [execOp, ea, eb, go_sem]) ?_
        exact h.step rfl rfl (by rw [FS.out]; decide) (by decide +kernel) ⟨_, rfl, rfl⟩ h.bel (fun _ _ _ q => q)
      · refine Dr.wpOp_of rfl rfl ?_
        obtain ⟨va, ea, sa⟩ := h.val hm rfl (j := 10) rfl rfl (by decide +kernel)
        obtain rfl : va = .pointer (some ⟨g, 11, none⟩) := sa.get rfl
        have hc := hR.cell 11 _ rfl
        refine Dr.step_value (v := .int .u64 (c.b0 : Int)) (w' := wx) (by generalize af.eval = r at *; simp [execOp, ea, hc, go_sem]) ?_
        exact h.step rfl rfl (by rw [FS.out]; decide) (by decide +kernel) ⟨_, rfl, rfl⟩ h.bel (fun _ _ _ q => q)
      · refine Dr.wpOp_of rfl rfl ?_
        have ea : af.eval (.tmp 2) = .pointer (some ⟨g, 0, none⟩) := h.oldv (t := 2) (by decide +kernel) F2.out
        refine Dr.step_value (v := .pointer (some ⟨g, 3, none⟩)) (w' := wx) (by generalize af.eval = r at *; simp [execOp, ea, go_sem]) ?_
        exact h.step rfl rfl (by rw [FS.out]; decide) (by decide +kernel) ⟨_, rfl, rfl⟩ h.bel (fun _ _ _ q => q)
      · refine Dr.wpOp_of rfl rfl ?_
        obtain ⟨va, ea, sa⟩ := h.val hm rfl (j := 12) rfl rfl (by decide +kernel)
        obtain rfl : va = .pointer (some ⟨g, 3, none⟩) := sa.get rfl
        have hc := hR.cell 3 _ rfl
        refine Dr.step_value (v := .int .i64 c.rb) (w' := wx) (by generalize af.eval = r at *; simp [execOp, ea, hc, go_sem]) ?_
        exact h.step rfl rfl (by rw [FS.out]; decide) (by decide +kernel) ⟨_, rfl, rfl⟩ h.bel (fun _ _ _ q => q)
      · refine Dr.wpOp_of rfl rfl ?_
        obtain ⟨va, ea, sa⟩ := h.val hm rfl (j := 13) rfl rfl (by decide +kernel)
        obtain rfl : va = .int .i64 c.rb := sa.get rfl
        refine Dr.step_value (v := .int .u64 c.rb) (w' := wx) (by have hw := HFT.out.w0; generalize af.eval = r at *; simp [execOp, ea, hw, go_sem]) ?_
        exact h.step rfl rfl (by rw [FS.out]; decide) (by decide +kernel) ⟨_, rfl, rfl⟩ h.bel (fun _ _ _ q => q)
      · refine Dr.wpOp_of rfl rfl ?_
        obtain ⟨va, ea, sa⟩ := h.val hm rfl (j := 11) rfl rfl (by decide +kernel)
        obtain rfl : va = .int .u64 (c.b0 : Int) := sa.get rfl
        obtain ⟨vb, eb, sb⟩ := h.val hm rfl (j := 14) rfl rfl (by decide +kernel)
        obtain rfl : vb = .int .u64 c.rb := sb.get rfl
        refine Dr.step_value (v := .int .u64 ((c.b0 : Int) + c.rb)) (w' := wx) (by have hw := HFT.out.w1; generalize af.eval = r at *; simp [execOp, ea, eb, hw, go_sem]) ?_
        exact h.step rfl rfl (by rw [FS.out]; decide) (by decide +kernel) ⟨_, rfl, rfl⟩ h.bel (fun _ _ _ q => q)
      · refine Dr.wpOp_of rfl rfl ?_
        obtain ⟨va, ea, sa⟩ := h.val hm rfl (j := 3) rfl rfl (by decide +kernel)
        obtain rfl : va = .int .u64 (c.b0 : Int) := sa.get rfl
        obtain ⟨vb, eb, sb⟩ := h.val hm rfl (j := 5) rfl rfl (by decide +kernel)
        obtain rfl : vb = .int .i64 c.sb := sb.get rfl
        obtain ⟨vc, ec, sc⟩ := h.val hm rfl (j := 7) rfl rfl (by decide +kernel)
        obtain rfl : vc = .int .i64 c.ms := sc.get rfl
        obtain ⟨vd, ed, sd⟩ := h.val hm rfl (j := 15) rfl rfl (by decide +kernel)
        obtain rfl : vd = .int .u64 ((c.b0 : Int) + c.rb) := sd.get rfl
        refine Dr.step_callv (f := 73) (args := #[.int .u64 (c.b0 : Int), .int .i64 c.sb, .int .i64 c.ms, .int .u64 ((c.b0 : Int) + c.rb)]) (G := fun v w' => (SdP W.heap.size (Snd.Sb.mk1 (c.b0 : Int) c.sb c.ms ((c.b0 : Int) + c.rb))) v w' ∧ Below wx.heap.size wx w') (by have hF : af.eval (.func 73) = .func (.func 73) #[] #[] := rfl; generalize af.eval = r at *; simp [execOp, resolve, invoke, hF, ea, eb, ec, ed, go_sem]) ((Snd.new_any wx (base := (c.b0 : Int)) (room := c.sb) (mss := c.ms) (edge := (c.b0 : Int) + c.rb) (b := (c.b0 : Int)) (r := c.sb) (m := c.ms) (by omega) HFT.out.e0a HFT.out.e0b HFT.out.m0 HFT.out.ms HFT.out.mm).mono fun e w' ⟨p, e1, e2, e3, e4⟩ => ⟨_, e1, ⟨p, rfl, e2, Nat.le_trans h.bel.size e4⟩, e3⟩) fun v w' ⟨hv, hb'⟩ => ?_
        exact h.step rfl rfl (by rw [FS.out]; decide) (by decide +kernel) ⟨_, rfl, hv⟩ (h.bel.trans (hb'.mono h.bel.size)) (fun j v _ q => q.kept KP.out hb')
      · refine Dr.wpOp_of rfl rfl ?_
        have ea : af.eval (.tmp 9) = .pointer (some ⟨pr, 0, none⟩) := h.oldv (t := 9) (by decide +kernel) F9.out
        refine Dr.step_value (v := .pointer (some ⟨pr, 0, none⟩)) (w' := wx) (by generalize af.eval = r at *; simp [execOp, ea, go_sem]) ?_
        exact h.step rfl rfl (by rw [FS.out]; decide) (by decide +kernel) ⟨_, rfl, rfl⟩ h.bel (fun _ _ _ q => q)
      · refine Dr.wpOp_of rfl rfl ?_
        have ea : af.eval (.tmp 7) = .int .i64 0 := h.oldv (t := 7) (by decide +kernel) F7.out
        refine Dr.step_value (v := .int .i64 0) (w' := wx) (by generalize af.eval = r at *; simp [execOp, ea, go_sem]) ?_
        exact h.step rfl rfl (by rw [FS.out]; decide) (by decide +kernel) ⟨_, rfl, rfl⟩ h.bel (fun _ _ _ q => q)
      · refine Dr.wpOp_of rfl rfl ?_
        have ea : af.eval (.tmp 2) = .pointer (some ⟨g, 0, none⟩) := h.oldv (t := 2) (by decide +kernel) F2.out
        refine Dr.step_value (v := .pointer (some ⟨g, 9, none⟩)) (w' := wx) (by generalize af.eval = r at *; simp [execOp, ea, go_sem]) ?_
        exact h.step rfl rfl (by rw [FS.out]; decide) (by decide +kernel) ⟨_, rfl, rfl⟩ h.bel (fun _ _ _ q => q)
      · refine Dr.wpOp_of rfl rfl ?_
        obtain ⟨va, ea, sa⟩ := h.val hm rfl (j := 19) rfl rfl (by decide +kernel)
        obtain rfl : va = .pointer (some ⟨g, 9, none⟩) := sa.get rfl
        obtain ⟨vb, eb, sb⟩ := h.val hm rfl (j := 18) rfl rfl (by decide +kernel)
        obtain rfl : vb = .int .i64 0 := sb.get rfl
        refine Dr.step_value (v := .pointer (some ⟨g, 9, none⟩)) (w' := wx) (by generalize af.eval = r at *; simp [execOp, ea, eb, go_sem]) ?_
        exact h.step rfl rfl (by rw [FS.out]; decide) (by decide +kernel) ⟨_, rfl, rfl⟩ h.bel (fun _ _ _ q => q)
      · refine Dr.wpOp_of rfl rfl ?_
        obtain ⟨va, ea, sa⟩ := h.val hm rfl (j := 20) rfl rfl (by decide +kernel)
        obtain rfl : va = .pointer (some ⟨g, 9, none⟩) := sa.get rfl
        have hc := hR.cell 9 _ rfl
        refine Dr.step_value (v := .int .u64 (c.k0 : Int)) (w' := wx) (by generalize af.eval = r at *; simp [execOp, ea, hc, go_sem]) ?_
        exact h.step rfl rfl (by rw [FS.out]; decide) (by decide +kernel) ⟨_, rfl, rfl⟩ h.bel (fun _ _ _ q => q)
      · refine Dr.wpOp_of rfl rfl ?_
        obtain ⟨va, ea, sa⟩ := h.val hm rfl (j := 21) rfl rfl (by decide +kernel)
        obtain rfl : va = .int .u64 (c.k0 : Int) := sa.get rfl
        refine Dr.step_callv (f := 74) (args := #[.int .u64 (c.k0 : Int)]) (G := fun v w' => v = .int .u32 (Sh.u (tokN c.k0)) ∧ Below wx.heap.size wx w') (by have hF : af.eval (.func 74) = .func (.func 74) #[] #[] := rfl; generalize af.eval = r at *; simp [execOp, resolve, invoke, hF, ea, go_sem]) ((Sh.token_any c.k0 HFT.out.k0 hKx h3x).mono fun e w' ⟨e1, e2⟩ => ⟨_, e1, rfl, e2⟩) fun v w' ⟨hv, hb'⟩ => ?_
        subst hv
        exact h.step rfl rfl (by rw [FS.out]; decide) (by decide +kernel) ⟨_, rfl, rfl⟩ (h.bel.trans (hb'.mono h.bel.size)) (fun j v _ q => q.kept KP.out hb')
      · refine Dr.wpOp_of rfl rfl ?_
        have ea : af.eval (.tmp 8) = .int .i64 1 := h.oldv (t := 8) (by decide +kernel) F8.out
        refine Dr.step_value (v := .int .i64 1) (w' := wx) (by generalize af.eval = r at *; simp [execOp, ea, go_sem]) ?_
        exact h.step rfl rfl (by rw [FS.out]; decide) (by decide +kernel) ⟨_, rfl, rfl⟩ h.bel (fun _ _ _ q => q)
      · refine Dr.wpOp_of rfl rfl ?_
        have ea : af.eval (.tmp 2) = .pointer (some ⟨g, 0, none⟩) := h.oldv (t := 2) (by decide +kernel) F2.out
        refine Dr.step_value (v := .pointer (some ⟨g, 9, none⟩)) (w' := wx) (by generalize af.eval = r at *; simp [execOp, ea, go_sem]) ?_
        exact h.step rfl rfl (by rw [FS.out]; decide) (by decide +kernel) ⟨_, rfl, rfl⟩ h.bel (fun _ _ _ q => q)
      · refine Dr.wpOp_of rfl rfl ?_
        obtain ⟨va, ea, sa⟩ := h.val hm rfl (j := 24) rfl rfl (by decide +kernel)
        obtain rfl : va = .pointer (some ⟨g, 9, none⟩) := sa.get rfl
        obtain ⟨vb, eb, sb⟩ := h.val hm rfl (j := 23) rfl rfl (by decide +kernel)
        obtain rfl : vb = .int .i64 1 := sb.get rfl
        refine Dr.step_value (v := .pointer (some ⟨g, 10, none⟩)) (w' := wx) (by generalize af.eval = r at *; simp [execOp, ea, eb, go_sem]) ?_
        exact h.step rfl rfl (by rw [FS.out]; decide) (by decide +kernel) ⟨_, rfl, rfl⟩ h.bel (fun _ _ _ q => q)
      · refine Dr.wpOp_of rfl rfl ?_
        obtain ⟨va, ea, sa⟩ := h.val hm rfl (j := 25) rfl rfl (by decide +kernel)
        obtain rfl : va = .pointer (some ⟨g, 10, none⟩) := sa.get rfl
        have hc := hR.cell 10 _ rfl
        refine Dr.step_value (v := .int .u64 (c.k1 : Int)) (w' := wx) (by generalize af.eval = r at *; simp [execOp, ea, hc, go_sem]) ?_
        exact h.step rfl rfl (by rw [FS.out]; decide) (by decide +kernel) ⟨_, rfl, rfl⟩ h.bel (fun _ _ _ q => q)
      · refine Dr.wpOp_of rfl rfl ?_
        obtain ⟨va, ea, sa⟩ := h.val hm rfl (j := 26) rfl rfl (by decide +kernel)
        obtain rfl : va = .int .u64 (c.k1 : Int) := sa.get rfl
        refine Dr.step_callv (f := 74) (args := #[.int .u64 (c.k1 : Int)]) (G := fun v w' => v = .int .u32 (Sh.u (tokN c.k1)) ∧ Below wx.heap.size wx w') (by have hF : af.eval (.func 74) = .func (.func 74) #[] #[] := rfl; generalize af.eval = r at *; simp [execOp, resolve, invoke, hF, ea, go_sem]) ((Sh.token_any c.k1 HFT.out.k1 hKx h3x).mono fun e w' ⟨e1, e2⟩ => ⟨_, e1, rfl, e2⟩) fun v w' ⟨hv, hb'⟩ => ?_
        subst hv
        exact h.step rfl rfl (by rw [FS.out]; decide) (by decide +kernel) ⟨_, rfl, rfl⟩ (h.bel.trans (hb'.mono h.bel.size)) (fun j v _ q => q.kept KP.out hb')
      · refine Dr.wpOp_of rfl rfl ?_
        obtain ⟨va, ea, sa⟩ := h.val hm rfl (j := 16) rfl rfl (by decide +kernel)
        obtain ⟨pa, rfl, ha, ka⟩ : (SdP W.heap.size (Snd.Sb.mk1 (c.b0 : Int) c.sb c.ms ((c.b0 : Int) + c.rb))) va wx := sa.get rfl
        obtain ⟨vb, eb, sb⟩ := h.val hm rfl (j := 17) rfl rfl (by decide +kernel)
        obtain rfl : vb = .pointer (some ⟨pr, 0, none⟩) := sb.get rfl
        obtain ⟨vc, ec, sc⟩ := h.val hm rfl (j := 22) rfl rfl (by decide +kernel)
        obtain rfl : vc = .int .u32 (Sh.u (tokN c.k0)) := sc.get rfl
        obtain ⟨vd, ed, sd⟩ := h.val hm rfl (j := 27) rfl rfl (by decide +kernel)
        obtain rfl : vd = .int .u32 (Sh.u (tokN c.k1)) := sd.get rfl
        refine Dr.step_value (v := .agg (owC pa pr (tokN c.k0) (tokN c.k1)).toArray) (w' := wx) (by generalize af.eval = r at *; simp [execOp, ea, eb, ec, ed, go_sem, owC]) ?_
        exact h.step rfl rfl (by rw [FS.out]; decide) (by decide +kernel) ⟨_, rfl, pa, pr, br, rfl, ha, HRC.out.kept h.bel⟩ h.bel (fun _ _ _ q => q)
      · refine Dr.wpOp_of rfl rfl ?_
        obtain ⟨va, ea, sa⟩ := h.val hm rfl (j := 28) rfl rfl (by decide +kernel)
        obtain ⟨qa, pa, ba, rfl, ha, ka⟩ : (OwV (Bf.zero (c.b1 : Int) c.rb c.ga) (Snd.Sb.mk1 (c.b0 : Int) c.sb c.ms ((c.b0 : Int) + c.rb)) (tokN c.k0) (tokN c.k1)) va wx := sa.get rfl
        have hb' : Below wx.heap.size wx (wx.alloc (.cells (owC qa pa (tokN c.k0) (tokN c.k1)).toArray 116)) := Dr.below_new _ _
        refine Dr.step_value (v := .pointer (some ⟨wx.heap.size, 0, none⟩)) (w' := wx.alloc (.cells (owC qa pa (tokN c.k0) (tokN c.k1)).toArray 116)) (by generalize af.eval = r at *; simp [execOp, ea, go_sem, owC]) ?_
        exact h.step rfl rfl (by rw [FS.out]; decide) (by decide +kernel) ⟨_, rfl, wx.heap.size, rfl, ⟨qa, pa, ba, Row.new' _ _ _ _ _ rfl rfl, ha.kept hb', ka.kept hb'⟩, h.bel.size⟩ (h.bel.trans (hb'.mono h.bel.size)) (fun j v _ q => q.kept KP.out hb')
      · refine Dr.wpOp_of rfl rfl ?_
        obtain ⟨va, ea, sa⟩ := h.val hm rfl (j := 29) rfl rfl (by decide +kernel)
        have sb : (OwP W.heap.size (Bf.zero (c.b1 : Int) c.rb c.ga) (Snd.Sb.mk1 (c.b0 : Int) c.sb c.ms ((c.b0 : Int) + c.rb)) (tokN c.k0) (tokN c.k1)) va wx := sa.get rfl
        refine Dr.step_value (v := va) (w' := wx) (by generalize af.eval = r at *; simp [execOp, ea, go_sem]) ?_
        exact h.step rfl rfl (by rw [FS.out]; decide) (by decide +kernel) ⟨_, rfl, sb⟩ h.bel (fun _ _ _ q => q)
      · refine Dr.wpOp_of rfl rfl ?_
        have ea : af.eval (.const (.int .i64 0)) = .int .i64 0 := rfl
        refine Dr.step_value (v := .int .i64 0) (w' := wx) (by generalize af.eval = r at *; simp [execOp, ea, go_sem]) ?_
        exact h.step rfl rfl (by rw [FS.out]; decide) (by decide +kernel) ⟨_, rfl, rfl⟩ h.bel (fun _ _ _ q => q)
  case step6 =>
    intro l af wx i h hiN hm
    have hiN : i < 14 := hiN
    have hR := HR.out.kept h.bel HR.out.lt
    rcases (show i = 0 ∨ i = 1 ∨ i = 2 ∨ i = 3 ∨ i = 4 ∨ i = 5 ∨ i = 6 ∨ i = 7 ∨ i = 8 ∨ i = 9 ∨ i = 10 ∨ i = 11 ∨ i = 12 ∨ i = 13 by omega) with rfl | rfl | rfl | rfl | rfl | rfl | rfl | rfl | rfl | rfl | rfl | rfl | rfl | rfl
    · refine Dr.wpOp_of rfl rfl ?_
      have ea : af.eval (.tmp 8) = .int .i64 1 := h.oldv (t := 8) (by decide +kernel) F8.out
      refine Dr.step_value (v := .int .i64 1) (w' := wx) (by generalize af.eval = r at *; simp [execOp, ea, go_sem]) ?_
      exact h.step rfl rfl (by rw [FS.out]; decide) (by decide +kernel) ⟨_, rfl, rfl⟩ h.bel (fun _ _ _ q => q)
    · refine Dr.wpOp_of rfl rfl ?_
      have ea : af.eval (.tmp 2) = .pointer (some ⟨g, 0, none⟩) := h.oldv (t := 2) (by decide +kernel) F2.out
      refine Dr.step_value (v := .pointer (some ⟨g, 11, none⟩)) (w' := wx) (by generalize af.eval = r at *; simp [execOp, ea, go_sem]) ?_
      exact h.step rfl rfl (by rw [FS.out]; decide) (by decide +kernel) ⟨_, rfl, rfl⟩ h.bel (fun _ _ _ q => q)
    · refine Dr.wpOp_of rfl rfl ?_
      obtain ⟨va, ea, sa⟩ := h.val hm rfl (j := 1) rfl rfl (by decide +kernel)
      obtain rfl : va = .pointer (some ⟨g, 11, none⟩) := sa.get rfl
      obtain ⟨vb, eb, sb⟩ := h.val hm rfl (j := 0) rfl rfl (by decide +kernel)
      obtain rfl : vb = .int .i64 1 := sb.get rfl
      refine Dr.step_value (v := .pointer (some ⟨g, 12, none⟩)) (w' := wx) (by generalize af.eval = r at *; simp [execOp, ea, eb, go_sem]) ?_
      exact h.step rfl rfl (by rw [FS.out]; decide) (by decide +kernel) ⟨_, rfl, rfl⟩ h.bel (fun _ _ _ q => q)
    · refine Dr.wpOp_of rfl rfl ?_
      obtain ⟨va, ea, sa⟩ := h.val hm rfl (j := 2) rfl rfl (by decide +kernel)
      obtain rfl : va = .pointer (some ⟨g, 12, none⟩) := sa.get rfl
      have hc := hR.cell 12 _ rfl
      refine Dr.step_value (v := .int .u64 (c.b1 : Int)) (w' := wx) (by generalize af.eval = r at *; simp [execOp, ea, hc, go_sem]) ?_
      exact h.step rfl rfl (by rw [FS.out]; decide) (by decide +kernel) ⟨_, rfl, rfl⟩ h.bel (fun _ _ _ q => q)
    · refine Dr.wpOp_of rfl rfl ?_
      have ea : af.eval (.tmp 2) = .pointer (some ⟨g, 0, none⟩) := h.oldv (t := 2) (by decide +kernel) F2.out
      refine Dr.step_value (v := .pointer (some ⟨g, 3, none⟩)) (w' := wx) (by generalize af.eval = r at *; simp [execOp, ea, go_sem]) ?_
      exact h.step rfl rfl (by rw [FS.out]; decide) (by decide +kernel) ⟨_, rfl, rfl⟩ h.bel (fun _ _ _ q => q)
    · refine Dr.wpOp_of rfl rfl ?_
      obtain ⟨va, ea, sa⟩ := h.val hm rfl (j := 4) rfl rfl (by decide +kernel)
      obtain rfl : va = .pointer (some ⟨g, 3, none⟩) := sa.get rfl
      have hc := hR.cell 3 _ rfl
      refine Dr.step_value (v := .int .i64 c.rb) (w' := wx) (by generalize af.eval = r at *; simp [execOp, ea, hc, go_sem]) ?_
      exact h.step rfl rfl (by rw [FS.out]; decide) (by decide +kernel) ⟨_, rfl, rfl⟩ h.bel (fun _ _ _ q => q)
    · refine Dr.wpOp_of rfl rfl ?_
      have ea : af.eval (.tmp 2) = .pointer (some ⟨g, 0, none⟩) := h.oldv (t := 2) (by decide +kernel) F2.out
      refine Dr.step_value (v := .pointer (some ⟨g, 4, none⟩)) (w' := wx) (by generalize af.eval = r at *; simp [execOp, ea, go_sem]) ?_
      exact h.step rfl rfl (by rw [FS.out]; decide) (by decide +kernel) ⟨_, rfl, rfl⟩ h.bel (fun _ _ _ q => q)
    · refine Dr.wpOp_of rfl rfl ?_
      obtain ⟨va, ea, sa⟩ := h.val hm rfl (j := 6) rfl rfl (by decide +kernel)
      obtain rfl : va = .pointer (some ⟨g, 4, none⟩) := sa.get rfl
      have hc := hR.cell 4 _ rfl
      refine Dr.step_value (v := .int .i64 c.ga) (w' := wx) (by generalize af.eval = r at *; simp [execOp, ea, hc, go_sem]) ?_
      exact h.step rfl rfl (by rw [FS.out]; decide) (by decide +kernel) ⟨_, rfl, rfl⟩ h.bel (fun _ _ _ q => q)
    · refine Dr.wpOp_of rfl rfl ?_
      obtain ⟨va, ea, sa⟩ := h.val hm rfl (j := 3) rfl rfl (by decide +kernel)
      obtain rfl : va = .int .u64 (c.b1 : Int) := sa.get rfl
      obtain ⟨vb, eb, sb⟩ := h.val hm rfl (j := 5) rfl rfl (by decide +kernel)
      obtain rfl : vb = .int .i64 c.rb := sb.get rfl
      obtain ⟨vc, ec, sc⟩ := h.val hm rfl (j := 7) rfl rfl (by decide +kernel)
      obtain rfl : vc = .int .i64 c.ga := sc.get rfl
      refine Dr.step_callv (f := 72) (args := #[.int .u64 (c.b1 : Int), .int .i64 c.rb, .int .i64 c.ga]) (G := fun v w' => (RcT W.heap.size (Bf.zero (c.b1 : Int) c.rb c.ga)) v w' ∧ Below wx.heap.size wx w') (by have hF : af.eval (.func 72) = .func (.func 72) #[] #[] := rfl; generalize af.eval = r at *; simp [execOp, resolve, invoke, hF, ea, eb, ec, go_sem]) ((bnew_ok wx (base := (c.b1 : Int)) (room := c.rb) (gaps := c.ga) (by omega) HFT.out.pb1 HFT.out.r0 HFT.out.r1 HFT.out.g0 HFT.out.g1 (fun _ => 0#8)).mono fun e w' ⟨p, b, e1, e2, e3, e4⟩ => ⟨_, e1, ⟨p, b, rfl, e2.r, Nat.le_trans h.bel.size (e4 p (.inl rfl))⟩, e3⟩) fun v w' ⟨hv, hb'⟩ => ?_
      exact h.step rfl rfl (by rw [FS.out]; decide) (by decide +kernel) ⟨_, rfl, hv⟩ (h.bel.trans (hb'.mono h.bel.size)) (fun j v _ q => q.kept KP.out hb')
    · refine Dr.wpOp_of rfl rfl ?_
      obtain ⟨va, ea, sa⟩ := h.val hm rfl (j := 8) rfl rfl (by decide +kernel)
      have sb : (RcT W.heap.size (Bf.zero (c.b1 : Int) c.rb c.ga)) va wx := sa.get rfl
      refine Dr.step_value (v := va) (w' := wx) (by generalize af.eval = r at *; simp [execOp, ea, go_sem]) ?_
      exact h.step rfl rfl (by rw [FS.out]; decide) (by decide +kernel) ⟨_, rfl, sb⟩ h.bel (fun _ _ _ q => q)
    · refine Dr.wpOp_of rfl rfl ?_
      obtain ⟨va, ea, sa⟩ := h.val hm rfl (j := 9) rfl rfl (by decide +kernel)
      obtain ⟨pa, ba, rfl, ha, ka⟩ : (RcT W.heap.size (Bf.zero (c.b1 : Int) c.rb c.ga)) va wx := sa.get rfl
      refine Dr.step_value (v := .pointer (some ⟨pa, 0, none⟩)) (w' := wx) (by generalize af.eval = r at *; simp [execOp, ea, go_sem]) ?_
      exact h.step rfl rfl (by rw [FS.out]; decide) (by decide +kernel) ⟨_, rfl, pa, ba, rfl, ha, ka⟩ h.bel (fun _ _ _ q => q)
    · refine Dr.wpOp_of rfl rfl ?_
      obtain ⟨va, ea, sa⟩ := h.val hm rfl (j := 9) rfl rfl (by decide +kernel)
      obtain ⟨pa, ba, rfl, ha, ka⟩ : (RcT W.heap.size (Bf.zero (c.b1 : Int) c.rb c.ga)) va wx := sa.get rfl
      refine Dr.step_value (v := .int .i64 0) (w' := wx) (by generalize af.eval = r at *; simp [execOp, ea, go_sem]) ?_
      exact h.step rfl rfl (by rw [FS.out]; decide) (by decide +kernel) ⟨_, rfl, rfl⟩ h.bel (fun _ _ _ q => q)
    · refine Dr.wpOp_of rfl rfl ?_
      obtain ⟨va, ea, sa⟩ := h.val hm rfl (j := 10) rfl rfl (by decide +kernel)
      have sb : (RcP W.heap.size (Bf.zero (c.b1 : Int) c.rb c.ga)) va wx := sa.get rfl
      refine Dr.step_value (v := va) (w' := wx) (by generalize af.eval = r at *; simp [execOp, ea, go_sem]) ?_
      exact h.step rfl rfl (by rw [FS.out]; decide) (by decide +kernel) ⟨_, rfl, sb⟩ h.bel (fun _ _ _ q => q)
    · refine Dr.wpOp_of rfl rfl ?_
      obtain ⟨va, ea, sa⟩ := h.val hm rfl (j := 11) rfl rfl (by decide +kernel)
      obtain rfl : va = .int .i64 0 := sa.get rfl
      refine Dr.step_value (v := .int .i64 0) (w' := wx) (by generalize af.eval = r at *; simp [execOp, ea, go_sem]) ?_
      exact h.step rfl rfl (by rw [FS.out]; decide) (by decide +kernel) ⟨_, rfl, rfl⟩ h.bel (fun _ _ _ q => q)
end Go.Proofs.YtnflgkobedbemaaGreatDoor
