import Derived.Test.YtkhogbnoincbeabCu0
namespace Go.Proofs.Ytkhogbnoincbeab
open Go.RowKit Go.Maps Go.Sort
set_option maxRecDepth 100000

def IntsAt (w : World) (a : Option Addr) (l : List Int) : Prop := ∀ k (h : k < l.length), ∃ g o, a = some ⟨g, o, none⟩ ∧ w.cell? ⟨g, o + k, none⟩ = some (.int .i64 l[k])
theorem bytes_front {w : World} {a : Option Addr} {l : List (BitVec 8)} (h : BytesAt w a l) (n : Nat) : BytesAt w a (l.take n) := fun k hk => by
  have hk2 : k < l.length := by rw [List.length_take] at hk; omega
  obtain ⟨g, o, e, c⟩ := h k hk2
  refine ⟨g, o, e, ?_⟩
  rw [List.getElem_take]
  exact c
theorem bytes_back {w : World} {g o : Nat} {l : List (BitVec 8)} (h : BytesAt w (some ⟨g, o, none⟩) l) (n : Nat) : BytesAt w (some ⟨g, o + n, none⟩) (l.drop n) := fun k hk => by
  have hk2 : n + k < l.length := by rw [List.length_drop] at hk; omega
  obtain ⟨g', o', e, c⟩ := h (n + k) hk2
  cases e
  refine ⟨g, o + n, rfl, ?_⟩
  rw [List.getElem_drop, Nat.add_assoc]
  exact c
theorem copy_slice {w : World} {a : Option Addr} {n cap : Nat} {bs : List (BitVec 8)} (hB : BytesAt w a bs) (hn : bs.length = n) (hz : a = none → cap = 0) (hl : n ≤ 140737488355328) :
    Calls Try.prog 6 #[.slice a n cap] w fun e w' => ∃ ax cx, e = .returned (.slice ax n cx) ∧ OwnBy w' w.heap.size (.slice ax n cx) bs ∧ Below w.heap.size w w' := by
  refine (copy_any hB hn hz hl).mono ?_
  rintro e w' ⟨v, rfl, ho, hb⟩
  obtain ⟨ax, cx, rfl, -⟩ := ownBy_shape ho
  subst hn
  exact ⟨ax, cx, rfl, ho, hb⟩
theorem own_base {w : World} {B B2 : Nat} {v : Value} {l : List (BitVec 8)} (h : OwnBy w B v l) (hB : B2 ≤ B) : OwnBy w B2 v l :=
  ⟨h.1, h.2.imp id fun ⟨g, cap, cur, h1, h2, h3⟩ => ⟨g, cap, cur, h1, Nat.le_trans hB h2, h3⟩⟩
/-- What is left to be cut, and the pieces that were made. -/
structure CuS (w : World) (b : List (BitVec 8)) (k : Nat) (s5 : Value) (ar : Option Addr) (rb : List (BitVec 8)) (cr : Nat) (W : World) : Prop where
  pc : ∃ Qs, PcL W w.heap.size s5 Qs ∧ Qs.length = k ∧ (Qs.map (·.2)).flatten ++ rb = b
  by_ : BytesAt w ar rb
  lc : rb.length ≤ cr
  cm : cr ≤ maxLen
  z : ar = none → cr = 0
  be : Below w.heap.size w W
section
variable {w W W' : World} {b rb : List (BitVec 8)} {k : Nat} {s5 : Value} {ar : Option Addr} {cr : Nat}
theorem CuS.kept (h : CuS w b k s5 ar rb cr W) (hb : Below W.heap.size W W') : CuS w b k s5 ar rb cr W' := by
  obtain ⟨⟨Qs, h1, h2, h3⟩, h4, h5, h6, h7, h9⟩ := h
  exact ⟨⟨Qs, h1.kept hb, h2, h3⟩, h4, h5, h6, h7, h9.trans (hb.mono h9.size)⟩
theorem CuS.len (h : CuS w b k s5 ar rb cr W) : rb.length ≤ b.length := by
  obtain ⟨⟨Qs, _, _, h3⟩, _⟩ := h
  rw [← h3, List.length_append]
  omega
/-- One piece more: x lies in new memory; the rest lies at ar2. -/
theorem CuS.push (h : CuS w b k s5 ar rb cr W) (hk : k ≤ 1048577) {J : Nat} (_ : J ≤ rb.length) {v : Value} (hv : OwnBy W w.heap.size v (rb.take J)) {bx : Nat} (hb : Row W bx [v] 27) :
    ∃ v' w', (Builtin.append_ #[31, 31] 31 #[s5, .slice (some ⟨bx, 0, none⟩) 1 1]).run Try.prog W = .ok v' w' ∧ (∃ Qs, PcL w' w.heap.size v' Qs ∧ Qs.length = k + 1 ∧ (Qs.map (·.2)).flatten ++ rb.drop J = b) ∧ Below w.heap.size w w' := by
  obtain ⟨⟨Qs, h1, h2, h3⟩, h4, h5, h6, h7, h9⟩ := h
  obtain ⟨v', w', hr, hp, hf⟩ := push_pc h1 h9.size (by omega) (x := (v, rb.take J)) hv hb 31
  refine ⟨v', w', hr, ⟨_, hp, by simp [h2], ?_⟩, h9.trans (hf.below (fun _ e => e) h9.size)⟩
  rw [List.map_append, List.flatten_append]
  simp only [List.map_cons, List.map_nil, List.flatten_cons, List.flatten_nil, List.append_nil]
  rw [List.append_assoc, List.take_append_drop, h3]
end
/-- A row of frames, to be looked at. -/
def LkA (w : World) (a : Option Addr) (G : List PF) : Prop := ∀ i (hi : i < G.length), ∃ g ax cx, a = some ⟨g, 0, none⟩ ∧ BytesAt w ax G[i].bs ∧ ∀ j u, (pcells (G[i], .slice ax G[i].bs.length cx))[j]? = some u → w.cell? ⟨g, i * 6 + j, none⟩ = some u
theorem LkA.kept {w w' : World} {a : Option Addr} {G : List PF} (h : LkA w a G) (hb : Below w.heap.size w w') : LkA w' a G := fun i hi => by
  obtain ⟨g, ax, cx, h1, h2, h3⟩ := h i hi
  exact ⟨g, ax, cx, h1, h2.kept hb, fun j u hu => cell_kept hb (h3 j u hu)⟩
theorem FrV.look {w : World} {B : Nat} {v : Value} {Ps : List (PF × Value)} {G : List PF} (h : FrV w B v Ps) (hm : Ps.map (·.1) = G) : ∃ a c, v = .slice a G.length c ∧ LkA w a G := by
  subst hm
  obtain ⟨a, c, e, hh⟩ := h.at
  refine ⟨a, c, by rw [e, List.length_map], fun i hi => ?_⟩
  have hi' : i < Ps.length := by simpa using hi
  obtain ⟨g, ax, cx, h1, h2, h3, h4⟩ := hh i hi'
  simp only [List.getElem_map]
  exact ⟨g, ax, cx, h1, h3, fun j u hu => h4 j u (by rw [← hu]; unfold pcells; rw [h2])⟩
theorem lall_look {w : World} {a : Option Addr} {Ts : List (List (BitVec 8))} {n c : Nat} {b : List (BitVec 8)} (hn : Ts.length = n) (hP : PcsAt w a Ts) (late : Bool) (hb : Ts.flatten = b) (hT : b.length ≤ 1048576) (hl : n ≤ 2097152) :
    Calls Try.prog 23 #[.slice a n c, .bool late] w fun e w' => ∃ (a2 : Option Addr) (c2 lf : Nat), e = .returned (.tuple #[.slice a2 (Pr b).1.length c2, .int .i64 (Pr b).2.1, .int .u64 ((b.length - (Pr b).2.2.length : Nat) : Int), .int .i64 (lf : Int)]) ∧ LkA w' a2 (Pr b).1 ∧ Below w.heap.size w w' := by
  subst hb
  refine (lall_any hn hP late (by omega) (by omega)).mono ?_
  rintro e w' ⟨v, lf, rfl, _, ⟨Ps, hF, hm⟩, hB⟩
  obtain ⟨a2, c2, rfl, hL⟩ := hF.look hm
  exact ⟨a2, c2, lf, rfl, hL, hB⟩
theorem one_pcs {w : World} {bx : Nat} {ax : Option Addr} {n cx B : Nat} {b : List (BitVec 8)} (hr : Row w bx [.slice ax n cx] 27) (ho : OwnBy w B (.slice ax n cx) b) : PcsAt w (some ⟨bx, 0, none⟩) [b] := fun i hi => by
  obtain rfl : i = 0 := by simpa using hi
  obtain ⟨a', c', e1, e2, e3, e4, e5, _⟩ := ownBy_shape ho
  cases e1
  exact ⟨bx, 0, ax, cx, rfl, hr.cell 0 _ rfl, e2, e5⟩
theorem Pr_cnt : ∀ (n : Nat) (l : List (BitVec 8)), l.length < n → (Pr l).1.length ≤ l.length
  | 0, _, h => absurd h (Nat.not_lt_zero _)
  | n + 1, l, h => by
    by_cases h0 : (allA PF.zero l).1 = 0
    · have hp := A_pos h0
      have ih := Pr_cnt n (allA PF.zero l).2.2 (by omega)
      rw [Pr_one h0]
      simp only [List.length_cons]
      omega
    · by_cases h1 : (allA PF.zero l).1 = 174
      · rw [Pr_short h1]; exact Nat.zero_le _
      · rw [Pr_bad h0 h1]; exact Nat.zero_le _
end Go.Proofs.Ytkhogbnoincbeab
