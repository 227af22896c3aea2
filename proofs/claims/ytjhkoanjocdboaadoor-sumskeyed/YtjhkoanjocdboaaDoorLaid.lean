import Derived.Test.YtjhkoanjocdboaaDoorSha1
import Derived.Test.YtjhkoanjocdboaaDoorTie
import Derived.ProofKit
import Derived.OpenShut
import Derived.SizedLaws
import Derived.Deep.Slices
import Derived.Lib.LaidTab
import Derived.LaidMore
import Derived.Stop.Joined
import Derived.Stop.LaidErr
import Derived.SevenTiedAt
namespace Go.Proofs.YtjhkoanjocdboaaDoor
open Go.ChangeShapes Go.WideShapes Go.ChangeAt Go.RowKit Go.Deep
set_option maxRecDepth 100000

theorem own : ownKnob Tryd.prog.godebug = none := by kernel_rfl
theorem laidOut : laidOutB Tryd.prog = true := by kernel_rfl
theorem gCrc : Tryd.prog.globalNamed "braid/sums.crcSteps" = some 0 := by kernel_rfl
theorem gRounds : Tryd.prog.globalNamed "braid/sums.rounds" = some 1 := by kernel_rfl
theorem tRounds : (Tryd.prog.globals[1]?).map (·.type) = some 66 := by kernel_rfl
theorem tCrc : (Tryd.prog.globals[0]?).map (·.type) = some 57 := by kernel_rfl
theorem cells5 : Tryd.prog.cellsOf 5 = 1 := by kernel_rfl
theorem cells23 : Tryd.prog.cellsOf 23 = 1 := by kernel_rfl
theorem bytes5 : Tryd.prog.bytesOf 5 = 1 := by kernel_rfl
theorem datumRounds : (Rows.laid_braid_sums_rounds : DataW Unit) = Lib.tabData .u32 (kT.map u) := by kernel_rfl
theorem datumCrc : (Rows.laid_braid_sums_crcSteps : DataW Unit) = Lib.tabData .u32 (crcT.map u) := by kernel_rfl

theorem ktab_of {W : World} {rest : List (String × DataW Unit)} (h : laidMet Tryd.prog ((("braid/sums.rounds", Rows.laid_braid_sums_rounds) : String × DataW Unit) :: rest) W) : KTab W := by
  rw [datumRounds] at h
  have t := Lib.tabIs_of_head gRounds tRounds Tryd.underlying66 Tryd.underlying23 cells23 (by kernel_rfl) h
  intro j hj
  rw [t.cell gRounds j (by simpa [kT] using hj)]
  have hk : j < kT.length := by simpa [kT] using hj
  simp [List.getElem?_map, List.getElem?_eq_getElem hk]
theorem crctab_of {W : World} {rest : List (String × DataW Unit)} (h : laidMet Tryd.prog ((("braid/sums.crcSteps", Rows.laid_braid_sums_crcSteps) : String × DataW Unit) :: rest) W) : CrcTab W := by
  rw [datumCrc] at h
  have t := Lib.tabIs_of_head gCrc tCrc Tryd.underlying57 Tryd.underlying23 cells23 (by kernel_rfl) h
  intro j hj
  rw [t.cell gCrc j (by simpa using hj)]
  simp [List.getElem?_map, List.getElem?_eq_getElem hj]

section
variable {H : Type} {enc : TypeId × Value → H} {W : World}
theorem wf_u8 {x : Int} (h : (Lit.int .u8 x).wf = true) : 0 ≤ x ∧ x ≤ 255 := bounds_u8 h
theorem addr_off {a : Addr} (h : a.spot = none) (i : Nat) : a.add i = ⟨a.block, a.off + i, none⟩ := by
  obtain ⟨b, o, s⟩ := a
  simp only at h
  subst h
  exact Addr.add_lit b o i
theorem open_bytes {sp : Nat → Bool} (hsp : ∀ b, sp b = true) {held : Bool} {fuel len cap : Nat} {a : Option Addr} {x : DataW H × List MemPlace} (h : DataW.trod enc Tryd.prog W 0 sp held fuel 24 [.slice a len cap] = some x) :
    ∃ bs : List (BitVec 8), bs.length = len ∧ BytesAt W a bs ∧ len ≤ cap ∧ (cap = 0 ∨ ∃ elems sp, x.1 = .slice elems sp ∧ elems.length + sp.length = cap ∧ elems.length = len) := by
  rcases open_slice Tryd.underlying24 h with ⟨hcs, _⟩ | ⟨ad, l, c, m, n, D, Pl, hcs, _, hl, hm, hmm, hx, hel⟩
  · simp at hcs
    obtain ⟨rfl, rfl, rfl⟩ := hcs
    exact ⟨[], rfl, fun i h => by simp at h, Nat.le_refl _, .inl rfl⟩
  · simp at hcs
    obtain ⟨rfl, rfl, rfl⟩ := hcs
    rw [hsp] at hmm
    simp only [if_true] at hmm
    subst hmm
    have each : ∀ i, i < m → ∃ b : BitVec 8, W.cell? (ad.add i) = some (.int .u8 (ub b)) := by
      intro i hi
      obtain ⟨cs', h1, h2⟩ := hel i hi
      rw [cells5] at h1
      obtain ⟨_, hlen, hcell⟩ := World.cells?_some h1
      obtain ⟨z, e, _, wz⟩ := DataW.trod_int Tryd.underlying5 h2
      have := hcell 0 (by omega)
      rw [add_add, e] at this
      have bd := wf_u8 wz
      refine ⟨BitVec.ofNat 8 z.toNat, ?_⟩
      rw [← ub_of z bd.1 (by omega)]
      simpa using this
    obtain ⟨f, hf⟩ := choose_lt each
    refine ⟨(List.range len).map f, by simp, fun i h => ?_, hl, .inr ⟨_, _, by rw [hx], by simp; omega, by simp⟩⟩
    have hi : i < len := by simpa using h
    have h0 := hf 0 (by omega)
    have hs : ad.spot = none := World.cell?_spot (a := ad) (v := .int .u8 (ub (f 0))) (by simpa [Addr.add] using h0)
    have hh := hf i (by omega)
    refine ⟨ad.block, ad.off, ?_, ?_⟩
    · cases ad; simp only at hs; subst hs; rfl
    · rw [addr_off hs] at hh; simpa using hh
end
end Go.Proofs.YtjhkoanjocdboaaDoor
