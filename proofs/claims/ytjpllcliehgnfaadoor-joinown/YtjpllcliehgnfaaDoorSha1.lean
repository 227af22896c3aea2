import Derived.Test.YtjpllcliehgnfaaDoorSched
namespace Go.Proofs.YtjpllcliehgnfaaDoor
open Go.RowKit

/-- The round constants. -/
def kT : List (BitVec 32) := [1116352408#32, 1899447441#32, 3049323471#32, 3921009573#32, 961987163#32, 1508970993#32, 2453635748#32, 2870763221#32, 3624381080#32, 310598401#32, 607225278#32, 1426881987#32, 1925078388#32, 2162078206#32, 2614888103#32, 3248222580#32, 3835390401#32, 4022224774#32, 264347078#32, 604807628#32, 770255983#32, 1249150122#32, 1555081692#32, 1996064986#32, 2554220882#32, 2821834349#32, 2952996808#32, 3210313671#32, 3336571891#32, 3584528711#32, 113926993#32, 338241895#32, 666307205#32, 773529912#32, 1294757372#32, 1396182291#32, 1695183700#32, 1986661051#32, 2177026350#32, 2456956037#32, 2730485921#32, 2820302411#32, 3259730800#32, 3345764771#32, 3516065817#32, 3600352804#32, 4094571909#32, 275423344#32, 430227734#32, 506948616#32, 659060556#32, 883997877#32, 958139571#32, 1322822218#32, 1537002063#32, 1747873779#32, 1955562222#32, 2024104815#32, 2227730452#32, 2361852424#32, 2428436474#32, 2756734187#32, 3204031479#32, 3329325298#32]
def KTab (w : World) : Prop := ∀ j (_ : j < 64), w.cell? ⟨0, j, none⟩ = some (.int .u32 (u (kT.getD j 0)))
theorem KTab.kept {w w' : World} (h : KTab w) (hb : Below w.heap.size w w') : KTab w' := fun j hj => cell_kept hb (h j hj)

/-- The state's eight words. -/
structure St where
  a : BitVec 32
  b : BitVec 32
  c : BitVec 32
  d : BitVec 32
  e : BitVec 32
  f : BitVec 32
  g : BitVec 32
  h : BitVec 32
def St.l (s : St) : List (BitVec 32) := [s.a, s.b, s.c, s.d, s.e, s.f, s.g, s.h]
def St.x (s : St) (k w : BitVec 32) : BitVec 32 := s.h + (rotr s.e 6 ^^^ rotr s.e 11 ^^^ rotr s.e 25) + (s.e &&& s.f ^^^ ~~~s.e &&& s.g) + k + w
def St.y (s : St) : BitVec 32 := (rotr s.a 2 ^^^ rotr s.a 13 ^^^ rotr s.a 22) + (s.a &&& s.b ^^^ s.a &&& s.c ^^^ s.b &&& s.c)
/-- One round. -/
def rnd (s : St) (k w : BitVec 32) : St := ⟨s.x k w + s.y, s.a, s.b, s.c, s.d + s.x k w, s.e, s.f, s.g⟩
def rnds (s : St) (ws : List (BitVec 32)) : Nat → St
  | 0 => s
  | n + 1 => rnd (rnds s ws n) (kT.getD n 0) (ws.getD n 0)
def St.add (s t : St) : St := ⟨s.a + t.a, s.b + t.b, s.c + t.c, s.d + t.d, s.e + t.e, s.f + t.f, s.g + t.g, s.h + t.h⟩
/-- The state behind one block more. -/
def mix (s : St) (b : List (BitVec 8)) : St := s.add (rnds s (wordsOf b 48) 64)

/-- The first n words are added. -/
def addN (s t : List (BitVec 32)) (n : Nat) : List (BitVec 32) := (List.zipWith (· + ·) s t).take n ++ s.drop n
theorem addN_len (s t : List (BitVec 32)) (n : Nat) (h : s.length = t.length) (hn : n ≤ s.length) : (addN s t n).length = s.length := by
  simp [addN]; omega
theorem addN_get (s t : List (BitVec 32)) (n : Nat) (h : s.length = t.length) (hn : n < s.length) : (wcells (addN s t n))[n]? = some (.int .u32 (u (s.getD n 0))) := by
  have hl := addN_len s t n h (by omega)
  rw [wcells_get (by omega)]
  simp only [addN]
  rw [List.getElem_append_right (by simp; omega)]
  simp [show min n (min s.length t.length) = n by omega, List.getElem?_eq_getElem hn]
theorem addN_set (s t : List (BitVec 32)) (n : Nat) (h : s.length = t.length) (hn : n < s.length) : (addN s t n).set n (s.getD n 0 + t.getD n 0) = addN s t (n + 1) := by
  have hz : n < (List.zipWith (· + ·) s t).length := by simp; omega
  have e : ((List.zipWith (· + ·) s t).take n).length = n := by simp; omega
  have e1 : s.getD n 0 + t.getD n 0 = (List.zipWith (· + ·) s t)[n] := by
    simp [List.getElem?_eq_getElem hn, List.getElem?_eq_getElem (show n < t.length by omega)]
  unfold addN
  rw [List.take_succ_eq_append_getElem hz, List.drop_eq_getElem_cons hn, List.set_append_right _ _ (by omega), e, Nat.sub_self, List.set_cons_zero, e1, List.append_assoc]
  rfl

theorem run_index_words (t : TypeId) (n : Nat) (hu : Tryd.prog.underlying t = some (.array n 27)) (ws : List (BitVec 32)) (hl : ws.length = n) (j : Nat) (hj : j < n) (w : World) :
    (Instr.index t (.agg (wcells ws).toArray) (.int .i64 (j : Int))).run Tryd.prog w = .ok (.int .u32 (u (ws.getD j 0))) w := by
  have h1 : (wcells ws)[j]? = some (.int .u32 (u (ws[j]?.getD 0#32))) := by
    rw [wcells_get (by omega)]
    simp [List.getElem?_eq_getElem (show j < ws.length by omega)]
  have hn : (0 : Int) ≤ (j : Int) ∧ (j : Int) < (n : Int) := by omega
  have h2 : (sizeOf 27).run Tryd.prog w = .ok 1 w := by kernel_rfl
  simp [Instr.index, run_underlying hu, asIntOf, h2, part, h1, go_sem, hj]
end Go.Proofs.YtjpllcliehgnfaaDoor
