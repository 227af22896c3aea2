import Derived.Test.YtjnmfedefmemnaaMaps0
namespace Go.Proofs.Ytjnmfedefmemnaa
open Go.RowKit Go.Maps
set_option maxRecDepth 100000

/-- The bits of a frame's bytes that are turned. -/
def TurnAt (w : World) (mv : Value) (n K : Nat) (T : Nat → BitVec 8) : Prop :=
  (mv = .map none ∧ ∀ j, j < n → T j = 0) ∨ ∃ B k D, mv = .map (some B) ∧ OwnM w B k D ∧ k ≤ K ∧ TInv n D T
def mblk : Value → List Nat
  | .map (some b) => [b]
  | _ => []
theorem own_ne {w : World} {b k g : Nat} {D : DM} {c : List Value} {t : TypeId} (h : OwnM w b k D) (r : Row w g c t) : b ≠ g := fun e => by
  obtain ⟨es, clock, h1, _⟩ := h
  subst e
  rw [r.at_] at h1
  cases h1
theorem own_only {S : List Nat} {w w' : World} {b k : Nat} {D : DM} (h : OwnM w b k D) (ho : Only S w w') (hb : b ∉ S) : OwnM w' b k D := by
  obtain ⟨es, clock, h1, h2⟩ := h
  exact ⟨es, clock, (ho.block b (Array.getElem?_eq_some_iff.1 h1).1 hb).trans h1, h2⟩
theorem only_grown {w w' : World} {b : Nat} (h : w.grownBy w' (some b)) : Only [b] w w' := ⟨h.os, h.tape, h.output, h.size, fun k hk hs => h.block k hk (fun e => hs (by injection e with e; simp [e]))⟩
set_option maxHeartbeats 1000000 in
theorem turn_zero {w w' : World} {q gb n j : Nat} {mv : Value} {t m : BitVec 8} (h : Row w q [.slice (some ⟨gb, 0, none⟩) n n, mv] 84) (hl : (Instr.lookup 82 mv (.int .i64 j) false).run Try.prog w = .ok (.int .u8 (ub t)) w)
    (hd : ∀ ty, (Builtin.delete_ #[82, 3] ty #[mv, .int .i64 j]).run Try.prog w = .ok (.tuple #[]) w') (hz : t ^^^ m = 0) :
    Calls Try.prog 37 #[.pointer (some ⟨q, 0, none⟩), .int .i64 j, .int .u8 (ub m)] w fun e w'' => e = .returned (.tuple #[]) ∧ w'' = w' := by
  have c1 := h.cell 1 _ rfl
  have hz2 : (ub (t ^^^ m) == (0 : Int)) = true := by rw [hz]; rfl
  clear h hz
  go_enter Try.func37, Try.ntmps37
  go_wp2
  refine bodyPost_ret (results_none Try.results37 _ _ _) rfl ⟨rfl, rfl⟩
theorem ub_ne {x : BitVec 8} (h : x ≠ 0) : (ub x == (0 : Int)) = false := by
  simp only [beq_eq_false_iff_ne, ne_eq]
  intro e
  exact h (ub_inj (e.trans (show (0 : Int) = ub 0 from rfl)))
set_option maxHeartbeats 1000000 in
theorem turn_upd {w : World} {q gb n j B k : Nat} {D : DM} {t m : BitVec 8} (h : Row w q [.slice (some ⟨gb, 0, none⟩) n n, .map (some B)] 84) (hj : j ≤ 140737488351232) (hl : (Instr.lookup 82 (.map (some B)) (.int .i64 j) false).run Try.prog w = .ok (.int .u8 (ub t)) w)
    (ho : OwnM w B k D) (hk : k < 281474976710656) (hz : t ^^^ m ≠ 0) :
    Calls Try.prog 37 #[.pointer (some ⟨q, 0, none⟩), .int .i64 j, .int .u8 (ub m)] w fun e w' => e = .returned (.tuple #[]) ∧ OwnM w' B (k + 1) (D.put (kw j) (.lit (.int .u8 (ub (t ^^^ m))))) ∧ w.grownBy w' (some B) := by
  have c1 := h.cell 1 _ rfl
  have hz2 := ub_ne hz
  have hq : (binOp .eql 82 (.map (some B)) (.map none)).run Try.prog w = .ok (.bool false) w := by kernel_rfl
  obtain ⟨w', hr, h1, h2⟩ := ho.update law3 u82 (by unfold maxLen; omega) (key_of j hj) (plainElem_int Try.underlying5 (wf_ub (t ^^^ m)))
  have H1 := hid h1
  have H2 := hid h2
  clear h hz ho h1 h2
  go_enter Try.func37, Try.ntmps37
  go_wp2
  go_end0
  exact ⟨rfl, H1.out, H2.out⟩
set_option maxHeartbeats 1000000 in
theorem turn_new {w : World} {q gb n j : Nat} {t m : BitVec 8} (h : Row w q [.slice (some ⟨gb, 0, none⟩) n n, .map none] 84) (hj : j ≤ 140737488351232) (hl : (Instr.lookup 82 (.map none) (.int .i64 j) false).run Try.prog w = .ok (.int .u8 (ub t)) w) (hz : t ^^^ m ≠ 0) :
    Calls Try.prog 37 #[.pointer (some ⟨q, 0, none⟩), .int .i64 j, .int .u8 (ub m)] w fun e w' => e = .returned (.tuple #[]) ∧ Row w' q [.slice (some ⟨gb, 0, none⟩) n n, .map (some w.heap.size)] 84 ∧ OwnM w' w.heap.size 1 (DataW.put (.map []) (kw j) (.lit (.int .u8 (ub (t ^^^ m))))) ∧ Only [q] w w' := by
  have c1 := h.cell 1 _ rfl
  have hz2 := ub_ne hz
  have hq : (binOp .eql 82 (.map none) (.map none)).run Try.prog w = .ok (.bool true) w := by kernel_rfl
  have hmm := @run_makeMap Try.prog
  have R1 := h.alloc (.map #[] 0)
  have c2 := R1.cell 1 _ rfl
  have f2 := R1.frozen 1
  have R2 := R1.set 1 (.map (some w.heap.size))
  have c3 := R2.cell 1 _ rfl
  have ho : OwnM (w.alloc (.map #[] 0)) w.heap.size 0 (.map []) := World.ownsMap_made w Try.prog 3 _
  have hne := own_ne ho R1
  have ho2 : OwnM ((w.alloc (.map #[] 0)).setCell ⟨q, 1, none⟩ (.map (some w.heap.size))) w.heap.size 0 (.map []) := ho.setCell (a := ⟨q, 1, none⟩) hne _
  obtain ⟨w', hr, h1, h2⟩ := ho2.update law3 u82 (by unfold maxLen; omega) (key_of j hj) (plainElem_int Try.underlying5 (wf_ub (t ^^^ m)))
  have H1 := hid h1
  have HR : Hid (Row w' q [.slice (some ⟨gb, 0, none⟩) n n, .map (some w.heap.size)] 84) := R2.of_block (h2.block q R2.lt (fun e => hne (by injection e with e; exact e.symm)))
  have HO : Hid (Only [q] w w') := by
    have o1 : Only [q] w (w.alloc (.map #[] 0)) := (Only.refl [q] w).alloc _
    exact (o1.setCell q 1 _ (.inl (by simp))).trans (only_grown h2) (fun x hx => by simp at hx; exact .inr (by omega))
  clear h hz ho ho2 h1 h2 R1 R2 hne
  go_enter Try.func37, Try.ntmps37
  go_wp2
  go_end0
  exact ⟨rfl, HR.out, H1.out, HO.out⟩
/-- turn: one place's bits are turned. -/
theorem turn_any {w : World} {q gb n j K : Nat} {mv : Value} {T : Nat → BitVec 8} {m : BitVec 8} (h : Row w q [.slice (some ⟨gb, 0, none⟩) n n, mv] 84) (hT : TurnAt w mv n K T) (hj : j < n) (hn : n ≤ 140737488351232) (hK : K < 281474976710656) :
    Calls Try.prog 37 #[.pointer (some ⟨q, 0, none⟩), .int .i64 j, .int .u8 (ub m)] w fun e w' => e = .returned (.tuple #[]) ∧ ∃ mv', Row w' q [.slice (some ⟨gb, 0, none⟩) n n, mv'] 84 ∧ TurnAt w' mv' n (K + 1) (turnT T j m) ∧ Only (q :: mblk mv) w w' ∧ (∀ x ∈ mblk mv', x ∈ mblk mv ∨ w.heap.size ≤ x) := by
  rcases hT with ⟨rfl, h0⟩ | ⟨B, k, D, rfl, ho, hk, hI⟩
  · have hl0 := Maps.look_nil (P := Try.prog) (w := w) false law3 u82 (zero5 w) (key_of j (by omega))
    have hl : (Instr.lookup 82 (.map none) (.int .i64 (j : Int)) false).run Try.prog w = .ok (.int .u8 (ub (T j))) w := by rw [hl0, h0 j hj]; rfl
    by_cases hz : T j ^^^ m = 0
    · refine (turn_zero h hl (fun ty => Maps.drop_nil (P := Try.prog) (w := w) law3 u82 (key_of j (by omega)) ty) hz).mono ?_
      rintro e w' ⟨rfl, rfl⟩
      refine ⟨rfl, _, h, .inl ⟨rfl, fun i hi => ?_⟩, Only.refl _ _, fun x hx => by cases hx⟩
      unfold turnT
      by_cases e : i = j
      · subst e; rw [if_pos rfl]; exact hz
      · rw [if_neg e]; exact h0 i hi
    · refine (turn_new h (by omega) hl hz).mono ?_
      rintro e w' ⟨rfl, hr, hm, ho⟩
      refine ⟨rfl, _, hr, .inr ⟨_, 1, _, rfl, hm, by omega, (TInv.empty h0).put isMap_empty hj hz⟩, ho, fun x hx => ?_⟩
      have : x = w.heap.size := by simpa [mblk] using hx
      exact .inr (by omega)
  · obtain ⟨c, hl1, hat, _⟩ := ho.lookup_int law3 u82 Try.underlying5 (zero5 w) (key_of j (by omega))
    have hc : c = ub (T j) := by
      have := hat.symm.trans (hI.at_ j hj)
      injection this with h1
      injection h1
    subst hc
    by_cases hz : T j ^^^ m = 0
    · obtain ⟨w1, hd, hm, ht⟩ := ho.drop law3 u82 (key_of j (by omega)) 0
      have hd' : ∀ ty, (Builtin.delete_ #[82, 3] ty #[.map (some B), .int .i64 (j : Int)]).run Try.prog w = .ok (.tuple #[]) w1 := fun ty => by
        obtain ⟨w2, hd2, _, _⟩ := ho.drop law3 u82 (key_of j (by omega)) ty
        have : (Builtin.delete_ #[82, 3] ty #[.map (some B), .int .i64 (j : Int)]).run Try.prog w = (Builtin.delete_ #[82, 3] 0 #[.map (some B), .int .i64 (j : Int)]).run Try.prog w := rfl
        rw [this, hd]
      refine (turn_zero h hl1 hd' hz).mono ?_
      rintro e w' ⟨rfl, rfl⟩
      have hg := only_grown ht.grown
      exact ⟨rfl, _, hg.row h (by simpa using (own_ne ho h).symm), .inr ⟨B, k, _, rfl, hm, by omega, hI.del hz⟩, hg.wider (fun x hx => by simp at hx; simp [mblk, hx]), fun x hx => .inl hx⟩
    · refine (turn_upd h (by omega) hl1 ho (by omega) hz).mono ?_
      rintro e w' ⟨rfl, hm, hg⟩
      have hg' := only_grown hg
      exact ⟨rfl, _, hg'.row h (by simpa using (own_ne ho h).symm), .inr ⟨B, k + 1, _, rfl, hm, by omega, hI.put ho.isMap hj hz⟩, hg'.wider (fun x hx => by simp at hx; simp [mblk, hx]), fun x hx => .inl hx⟩
end Go.Proofs.Ytjnmfedefmemnaa
