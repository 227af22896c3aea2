import Derived.Test.YtjnmfedefmemnaaMClone
import Derived.Deep.RegionHeld3
namespace Go.Proofs.Ytjnmfedefmemnaa
open Go.RowKit Go.Maps
set_option maxRecDepth 100000

/-- maps.Clone of the bits that are turned. -/
theorem mclone_turn {w : World} {mv : Value} {n K : Nat} {T : Nat → BitVec 8} (h : TurnAt w mv n K T) :
    Calls Try.prog 40 #[mv] w fun e w' => ∃ m', e = .returned (.map m') ∧ TurnAt w' (.map m') n K T ∧ (∀ x ∈ mblk (.map m'), w.heap.size ≤ x) ∧ Below w.heap.size w w' := by
  rcases h with ⟨rfl, hT⟩ | ⟨b, k, D, rfl, ho, hk, hI⟩
  · refine (mclone_nil w).mono ?_
    rintro e w' ⟨rfl, rfl⟩
    exact ⟨_, rfl, .inl ⟨rfl, hT⟩, (fun x hx => by cases hx), Below.refl _ _⟩
  · obtain ⟨es, clock, h1, h2⟩ := ho
    refine (mclone_some w h1).mono ?_
    rintro e w' ⟨rfl, rfl⟩
    refine ⟨_, rfl, .inr ⟨w.heap.size, k, D, rfl, ⟨es, clock, (MapKept.heap_alloc w _).1, h2⟩, hk, hI⟩, (fun x hx => ?_), (Below.refl _ w).alloc (Nat.le_refl _) _⟩
    have : x = w.heap.size := by simpa [mblk] using hx
    omega
set_option maxHeartbeats 1000000 in
theorem pdouble_sp {w : World} {q gb n K : Nat} {mv : Value} {T : Nat → BitVec 8} (h : Row w q [.slice (some ⟨gb, 0, none⟩) n n, mv] 84) (hT : TurnAt w mv n K T) :
    Calls Try.prog 29 #[.pointer (some ⟨q, 0, none⟩)] w fun e w' => ∃ q' mv', e = .returned (.pointer (some ⟨q', 0, none⟩)) ∧ w.heap.size ≤ q' ∧ Row w' q' [.slice (some ⟨gb, 0, none⟩) n n, mv'] 84 ∧ TurnAt w' mv' n K T ∧ (∀ x ∈ mblk mv', w.heap.size ≤ x) ∧ Below w.heap.size w w' := by
  obtain ⟨m, rfl⟩ : ∃ m, mv = .map m := by rcases hT with ⟨h, _⟩ | ⟨b, _, _, h, _⟩ <;> exact ⟨_, h⟩
  have HQ := hid h
  have HT := hid hT
  have c0 := h.cell 0 _ rfl
  have c1 := h.cell 1 _ rfl
  clear h hT
  go_enter Try.func29, Try.ntmps29
  go_wp2
  have HKd := hid (below_drewN (Below.refl w.heap.size w) 1)
  have HQd := hid (HQ.out.kept HKd.out HQ.out.lt)
  have HMC := hid (mclone_turn (HT.out.kept HKd.out))
  go_region_held3 (fun w' => w'.cell? ⟨q, 0, none⟩ = some (.slice (some ⟨gb, 0, none⟩) n n) ∧ w'.cell? ⟨q, 1, none⟩ = some (.map m)) (go_keep)
    (first | (go_at_call 40; refine Calls.mono HMC.out ?_; rintro e w2 ⟨m', rfl, ht2, hm2, hb2⟩; have d0 := (HQd.out.kept hb2 HQd.out.lt).cell 0 _ rfl; have d1 := (HQd.out.kept hb2 HQd.out.lt).cell 1 _ rfl; have HT2 := hid ht2; have HM2 := hid hm2; have HB2 := hid hb2; clear ht2 hm2 hb2))
  go_wp2
  go_ret
  have hb : Below w.heap.size w w2 := HKd.out.trans (HB2.out.mono HKd.out.size)
  have ha := below_grow (Below.refl w2.heap.size w2) (.cells #[.slice (some ⟨gb, 0, none⟩) n n, .map m'] 84)
  exact ⟨_, _, rfl, hb.size, Row.new' _ _ _ _ _ rfl rfl, HT2.out.kept ha, (fun x hx => Nat.le_trans HKd.out.size (HM2.out x hx)), hb.alloc hb.size _⟩
/-- What Double leaves of a frame that may be spoilt. -/
def DoubledSp (w w' : World) (g b d gb n K : Nat) (T : Nat → BitVec 8) (c : List Value) (v : Value) (qs : List Nat) (tw : Int) : Prop :=
  ∃ v' q' mv', Row w' g ((c.set (b + 14 + d) v').set (b + 12 + d) (.int .u64 tw)) 67 ∧ BagAt w' v' (qs ++ [q']) ∧ w.heap.size ≤ q' ∧ Row w' q' [.slice (some ⟨gb, 0, none⟩) n n, mv'] 84 ∧ TurnAt w' mv' n K T ∧ (∀ x ∈ mblk mv', w.heap.size ≤ x) ∧ (∀ x ∈ blk v', x ∈ blk v ∨ w.heap.size ≤ x)
end Go.Proofs.Ytjnmfedefmemnaa
