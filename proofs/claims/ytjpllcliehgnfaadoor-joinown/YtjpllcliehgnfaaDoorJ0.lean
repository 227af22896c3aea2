import Derived.Test.YtjpllcliehgnfaaDoorJreg
namespace Go.Proofs.YtjpllcliehgnfaaDoor
open Go.RowKit
set_option maxRecDepth 100000

/-! The bytes of a nonce and of a key. -/
def fourL (x : BitVec 32) : List (BitVec 8) := [(x >>> 24).setWidth 8, (x >>> 16).setWidth 8, (x >>> 8).setWidth 8, x.setWidth 8]
def hiW (n : Nat) : BitVec 32 := BitVec.ofNat 32 (n / 4294967296)
def loW (n : Nat) : BitVec 32 := BitVec.ofNat 32 n
def keyB (n : Nat) : List (BitVec 8) := fourL (hiW n) ++ fourL (loW n)
theorem fourL_len (x : BitVec 32) : (fourL x).length = 4 := rfl
theorem keyB_len (n : Nat) : (keyB n).length = 8 := rfl
theorem hi_wrap (n : Nat) : IntKind.u32.wrap ((n : Int) / 4294967296) = u (hiW n) := by
  rw [u_wrap]
  congr 1
theorem lo_wrap (n : Nat) : IntKind.u32.wrap (n : Int) = u (loW n) := by
  rw [u_wrap]
  congr 1

set_option maxHeartbeats 400000 in
theorem four_any (w : World) (x : BitVec 32) : Calls Tryd.prog 59 #[.int .u32 (u x)] w fun e w' => e = .returned (.slice (some ⟨w.heap.size, 0, none⟩) 4 4) ∧ w' = w.alloc (.cells (bcells (fourL x)).toArray 5) := by
  go_enter Tryd.func59, Tryd.ntmps59
  go_wp2
  go_ret
  exact ⟨rfl, rfl⟩

/-- append onto an own row of bytes -/
theorem wpAppendB {ops : Array Oper} {rest : List Oper} {o : Oper} {a : Act} {w : World} {Q : Exit → Act → World → Prop} (s x : Operand) (hgd : o.guard = none) (ho : o.op = .call { callee := .builtin .append, args := #[s, x], argTypes := #[25, 25] })
    {B : Nat} {v : Value} {xs ys : List (BitVec 8)} (hs : a.eval s = v) (hown : w.ownsRow B 5 1 v xs.length (bcells xs)) {d : Addr} {m c : Nat} (hm : ys.length = m) (hx : a.eval x = .slice (some d) m c) (hB : BytesAt w (some d) ys) (hl : xs.length + ys.length ≤ 1000) (hb : B ≤ w.heap.size)
    (h : ∀ w' v', Hid (w'.ownsRow B 5 1 v' (xs ++ ys).length (bcells (xs ++ ys))) → Hid (Below B w w') → wpList Tryd.prog ops Q rest (a.put o.dst v') w') : wpList Tryd.prog ops Q (o :: rest) a w := by
  subst hm
  obtain ⟨i, h1, h2, h3, h4⟩ := info5
  refine wpList_append_own w hgd s x 25 ho B 5 i (.int .u8 0) 1 1 Tryd.underlying25 h1 h2 h3 h4 rfl (by decide) v xs.length (bcells xs) hs hown d ys.length c (bcells ys) hx (by rw [bcells_len]; omega) ?_ (bcells_one _) (by unfold maxLen; omega) (by omega) hb ?_
  · intro j v hv
    have hj : j < ys.length := by
      have := (List.getElem?_eq_some_iff.1 hv).1
      rwa [bcells_len] at this
    obtain ⟨g2, o2, e2, c2⟩ := hB j hj
    cases e2
    rw [bcells_get hj] at hv
    rw [Addr.add_mid, c2]
    exact hv
  · intro v' w' hown' hgrow _
    refine h w' v' ?_ ?_
    · show World.ownsRow _ _ _ _ _ _ _
      rw [List.length_append, show bcells (xs ++ ys) = bcells xs ++ bcells ys by simp [bcells]]
      exact hown'
    · refine (Below.refl _ _).grown hgrow hb (fun k e => ?_)
      obtain ⟨_, ⟨rfl, _⟩ | ⟨g, cap, cur, rfl, hg, _⟩⟩ := hown
      · cases e
      · cases e; exact hg
end Go.Proofs.YtjpllcliehgnfaaDoor
