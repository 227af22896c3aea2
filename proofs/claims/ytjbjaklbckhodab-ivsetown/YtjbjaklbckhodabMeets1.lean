import Derived.Test.YtjbjaklbckhodabAdds0
import Derived.Test.YtjbjaklbckhodabGaps
namespace Go.Proofs.Ytjbjaklbckhodab
open Go.RowKit
set_option maxRecDepth 100000

theorem SetAt.lt {w : World} {p : Nat} {v : Value} {L : List Rg} (S : SetAt w p v L) : p < w.heap.size ∧ ∀ x, v.ownBlock = some x → x < w.heap.size := by
  refine ⟨(Array.getElem?_eq_some_iff.1 S.hp).1, fun x hx => ?_⟩
  obtain ⟨rfl, _⟩ | ⟨g, cap, cur, rfl, _, hg, _⟩ := S.own.2
  · simp [Value.ownBlock] at hx
  · simp only [Value.ownBlock, Option.some.injEq] at hx
    subst hx
    exact (Array.getElem?_eq_some_iff.1 hg).1
theorem Turned.trans {w w' w'' : World} {p : Nat} {v v' v'' : Value} (T : Turned w w' p v v') (T' : Turned w' w'' p v' v'') : Turned w w'' p v v'' := by
  refine ⟨T'.os.trans T.os, T'.tape.trans T.tape, T'.output.trans T.output, Nat.le_trans T.size T'.size, fun k hk hp hv => ?_, ?_⟩
  · rw [T'.block k (Nat.lt_of_lt_of_le hk T.size) hp (fun e => ?_)]
    · exact T.block k hk hp hv
    · rcases T.row with h | ⟨g, h, hg⟩
      · rw [h] at e; exact hv e
      · rw [h] at e; simp only [Option.some.injEq] at e; omega
  · rcases T'.row with h | ⟨g, h, hg⟩
    · rw [h]; exact T.row
    · exact .inr ⟨g, h, Nat.le_trans T.size hg⟩
theorem Turned.refl (w : World) (p : Nat) (v : Value) : Turned w w p v v := ⟨rfl, rfl, rfl, Nat.le_refl _, fun _ _ _ _ => rfl, .inl rfl⟩
theorem Turned.of_below {w w' : World} (p : Nat) (v : Value) (hb : Below w.heap.size w w') : Turned w w' p v v := ⟨hb.os, hb.tape, hb.output, hb.size, fun k hk _ _ => hb.block k hk, .inl rfl⟩
/-- Another set stays. -/
theorem SetAt.other {w w' : World} {p q : Nat} {v v' u : Value} {L : List Rg} (S : SetAt w q u L) (T : Turned w w' p v v') (h1 : q ≠ p) (h2 : some q ≠ v.ownBlock) (h3 : ∀ x, u.ownBlock = some x → x ≠ p ∧ some x ≠ v.ownBlock) : SetAt w' q u L := by
  refine ⟨by rw [T.block q S.lt.1 h1 h2]; exact S.hp, S.own.1, ?_⟩
  obtain h | ⟨g, cap, cur, hv, hb, hg, hr⟩ := S.own.2
  · exact .inl h
  · have := h3 g (by rw [hv]; rfl)
    exact .inr ⟨g, cap, cur, hv, hb, by rw [T.block g (Array.getElem?_eq_some_iff.1 hg).1 this.1 this.2]; exact hg, hr⟩

set_option maxHeartbeats 1000000 in
theorem copy_any {w : World} {p : Nat} {a : Option Addr} {cap : Nat} {L : List Rg} (V : View w p a cap L) (hf : L.length * 16 ≤ 140737488355328) :
    Calls Try.prog 14 #[.pointer (some ⟨p, 0, none⟩)] w fun e w' => ∃ q, e = .returned (.pointer (some ⟨q, 0, none⟩)) ∧ ∃ v, Own w.heap.size w' q v L ∧ Below w.heap.size w w' := by
  have hC := copied_any (cap := cap) V.cells hf
  have hd := V.head
  clear V
  go_enter Try.func14, Try.ntmps14
  go_wp2_with fail
  refine hC.mono ?_
  rintro e w1 ⟨g, rfl, hg, hh, hb⟩
  have HB : Hid _ := hb
  have HH : Hid _ := hh
  clear hb hh hC
  go_wp2
  go_ret
  refine ⟨_, rfl, _, ⟨⟨heap_alloc_new w1 _, length_flat L, .inr ⟨g, L.length, (flat L).toArray, rfl, Nat.zero_le _, ?_, Nat.le_refl _, ?_, ?_, ?_⟩⟩, HB.out.size, fun x hx => ?_⟩, HB.out.alloc HB.out.size _⟩
  · exact (heap_alloc_old w1 _ (Array.getElem?_eq_some_iff.1 HH.out).1).trans HH.out
  · unfold maxLen; omega
  · simp [length_flat]
  · rw [List.take_of_length_le (by simp [length_flat])]
  · simp only [Value.ownBlock, Option.some.injEq] at hx; omega

end Go.Proofs.Ytjbjaklbckhodab
