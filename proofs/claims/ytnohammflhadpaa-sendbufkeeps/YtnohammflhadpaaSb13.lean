import Derived.Test.YtnohammflhadpaaSb12
namespace Go.Proofs.Ytnohammflhadpaa
open Go.RowKit Go.Maps Go.Sort
set_option maxRecDepth 100000

/-- The end as a chunk. -/
def endCk (e : Int) : Ck := ⟨e, [], none, 0, true, 0, false, false⟩
def Sb.shut (F : Sb) : Sb := { F with closed := true, L := F.L ++ [endCk F.end_] }
theorem Sb.shut_ok {F : Sb} (h : F.Ok) (hc : F.closed = false) (hn : F.L.length ≤ 65536) (ha : F.acked ≤ F.end_) : F.shut.Ok := by
  have hlt : ∀ c ∈ F.L, c.off < F.end_ := fun c hm => by
    have h1 := h.ck c hm
    have h2 := h1.few (h.cl hc c hm)
    have h3 := h1.ol
    have h4 := List.length_pos_iff.2 h2
    omega
  refine ⟨h.r0, h.r1, h.m0, h.m1, h.a0, h.a1, h.h0, h.h1, h.e1, h.fr, h.g0, h.g1, fun c hm => ?_, ?_, ?_, (fun e => by cases e), fun c hm => ?_, fun i hi => ?_, fun c hm => ?_⟩
  · rcases List.mem_append.1 hm with e | e
    · have := h.ck c e
      exact ⟨this.o0, this.ol, this.on0, this.on1, this.cap, this.capm, this.fin, this.few⟩
    · simp at e
      subst e
      have h1 := h.h0
      have h2 := h.h1
      exact ⟨by show 0 ≤ F.end_; omega, by show F.end_ + ((0 : Nat) : Int) ≤ F.end_; omega, Int.le_refl 0, by show (0 : Int) ≤ 255; omega, Nat.le_refl 0, Nat.zero_le _, fun _ => ⟨rfl, rfl⟩, fun e => by cases e⟩
  · show (F.L ++ [endCk F.end_]).Pairwise _
    rw [List.pairwise_append]
    exact ⟨h.so, List.pairwise_singleton _ _, fun c hm d hd => by simp at hd; subst hd; exact hlt c hm⟩
  · show (F.L ++ [endCk F.end_]).length ≤ 65537
    simp; omega
  · rcases List.mem_append.1 hm with e | e
    · exact h.ak c e
    · simp at e
      subst e
      show F.acked < (if true = true then F.end_ + 1 else F.end_ + ((0 : Nat) : Int))
      rw [if_pos rfl]; omega
  · have hi' : i + 1 < (F.L ++ [endCk F.end_]).length := hi
    simp at hi'
    show ((F.L ++ [endCk F.end_])[i]'(by simp; omega)).off + (((F.L ++ [endCk F.end_])[i]'(by simp; omega)).bs.length : Int) = ((F.L ++ [endCk F.end_])[i + 1]'(by simp; omega)).off
    rw [List.getElem_append_left (show i < F.L.length by omega)]
    by_cases e : i + 1 < F.L.length
    · rw [List.getElem_append_left e]; exact h.ch i e
    · rw [List.getElem_append_right (by omega)]
      have hla := h.la F.L[i] (by rw [List.getLast?_eq_getElem?, show F.L.length - 1 = i by omega]; exact List.getElem?_eq_getElem (by omega))
      simp only [List.getElem_singleton]
      exact hla
  · have hm' : (F.L ++ [endCk F.end_]).getLast? = some c := hm
    simp at hm'
    subst hm'
    show F.end_ + ((0 : Nat) : Int) = F.end_
    omega
set_option maxHeartbeats 1000000 in
theorem close_no {w : World} {p : Nat} {F : Sb} {a : Option Addr} {cap : Nat} (h : SbR w p F a cap) (hc : F.closed = true) : Calls Try.prog 12 #[.pointer (some ⟨p, 0, none⟩)] w fun e w' => e = .returned (.bool false) ∧ w' = w := by
  have c6 : w.cell? ⟨p, 6, none⟩ = some (.bool true) := by rw [← hc]; exact h.row.cell 6 _ rfl
  clear h hc
  go_enter Try.func12, Try.ntmps12
  go_wp2
  go_ret
  exact ⟨rfl, rfl⟩
end Go.Proofs.Ytnohammflhadpaa
