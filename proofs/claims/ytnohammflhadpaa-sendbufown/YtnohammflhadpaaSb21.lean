import Derived.Test.YtnohammflhadpaaSb19
import Derived.BigQuiet
namespace Go.Proofs.Ytnohammflhadpaa
open Go.RowKit Go.Maps Go.Sort
set_option maxRecDepth 100000

/-- Has the end gone out? -/
def Sb.endOut (F : Sb) : Bool := F.closed && (F.done || (match F.L.getLast? with | some c => c.out | none => false))
/-- Of a closed stream whose end is not acknowledged the last chunk is the end. -/
def Sb.Fin (F : Sb) : Prop := F.closed = true → F.acked ≤ F.end_ → ∃ c, F.L.getLast? = some c ∧ c.fin = true
section
variable {w : World} {p : Nat} {F : Sb} {a : Option Addr} {cap : Nat}
set_option maxHeartbeats 2000000 in
theorem endOut_d (h : SbR w p F a cap) (hc : F.closed = true) (hd : F.end_ < F.acked) : Calls Try.prog 72 #[.pointer (some ⟨p, 0, none⟩)] w fun e w' => e = .returned (.bool true) ∧ Below w.heap.size w w' := by
  have hdone : F.done = true := by unfold Sb.done; rw [hc]; simp [hd]
  have c6 := cell_regrown (w := w) (a := ⟨p, 6, none⟩) (v := .bool true) (by rw [← hc]; exact h.row.cell 6 _ rfl)
  obtain ⟨D, hD⟩ : ∃ D : Bool, D = true := ⟨_, rfl⟩
  have HN : Hid (D = true) := hD
  have HD := hid (toK (n := 13) (args := #[.pointer (some ⟨p, 0, none⟩)]) (v := .bool D) (w := w) (fun w' hb => (done_any (h.kept hb)).mono (by rintro e w'' ⟨rfl, q, rfl⟩; exact ⟨by rw [hdone, hD], below_drewN (Below.refl _ _) q⟩)))
  clear h hc hd hdone hD
  go_enter Try.func72, Try.ntmps72
  go_upto_region 1 with (fail)
  refine wp_region_quiet_below (by kernel_rfl) (by decide +kernel) ?_
  iterate 8 (quiet_step (first | (go_at_call 13; exact HD.out _ _)))
  iterate 13 (refine wpQuiet_step (fun K hK => ?_); go_simp; (try rw [if_pos HN.out]); refine hK _ ?_; clear hK K)
  iterate 3 (refine wpQuiet_step (fun K hK => ?_); go_simp; (try rw [if_pos HN.out]); refine hK _ ?_; clear hK K)
  refine wpQuiet_nil ?_
  intro w1 hw'
  obtain ⟨⟨dq, osq⟩, hw''⟩ := hw'
  subst hw''
  go_wp2_with fail
  go_ret
  exact ⟨by simp [HN.out], below_regrown w dq osq⟩
set_option maxHeartbeats 2000000 in
theorem endOut_n (h : SbR w p F a cap) (hc : F.closed = true) (hd : F.acked ≤ F.end_) {N : Nat} (hN : F.L.length = N + 1) : Calls Try.prog 72 #[.pointer (some ⟨p, 0, none⟩)] w fun e w' => e = .returned (.bool (F.L[N]'(by omega)).out) ∧ Below w.heap.size w w' := by
  have hdone : F.done = false := by unfold Sb.done; rw [hc]; simp; omega
  obtain ⟨g, o, rfl, q0, q1, q2, q3, q4, q5⟩ := h.ck.cell (show N < F.L.length by omega)
  have c6 := cell_regrown (w := w) (a := ⟨p, 6, none⟩) (v := .bool true) (by rw [← hc]; exact h.row.cell 6 _ rfl)
  have c7 := cell_regrown (w := w) (a := ⟨p, 7, none⟩) (v := .slice (some ⟨g, o, none⟩) (N + 1) cap) (by rw [← hN]; exact h.row.cell 7 _ rfl)
  have r4 := cell_regrown q4
  have HD := hid (toK (n := 13) (args := #[.pointer (some ⟨p, 0, none⟩)]) (v := .bool false) (w := w) (fun w' hb => (done_any (h.kept hb)).mono (by rintro e w'' ⟨rfl, q, rfl⟩; exact ⟨by rw [hdone], below_drewN (Below.refl _ _) q⟩)))
  have hNm : (N : Int) ≤ 65536 := by have := h.ok.nl; omega
  have wN : IntKind.i64.wrap (N : Int) = N := by rw [IntKind.wrap_i64]; omega
  have lN : (N : Int) < (N : Int) + 1 := by omega
  have hlc := h.lc
  rw [hN] at hlc
  generalize (F.L[N]'(by omega)).out = ou at *
  clear h hc hd hdone q0 q1 q2 q3 q4 q5
  go_enter Try.func72, Try.ntmps72
  go_upto_region 1 with (fail)
  refine wp_region_quiet_below (by kernel_rfl) (by decide +kernel) ?_
  iterate 24 (quiet_step (first | (go_at_call 13; exact HD.out _ _)))
  refine wpQuiet_nil ?_
  intro w1 hw'
  obtain ⟨⟨dq, osq⟩, hw''⟩ := hw'
  subst hw''
  go_wp2_with fail
  go_ret
  exact ⟨by first | rfl | simp, below_regrown w dq osq⟩
end
end Go.Proofs.Ytnohammflhadpaa
namespace Go.Proofs.Ytnohammflhadpaa
open Go.RowKit Go.Maps Go.Sort
set_option maxRecDepth 100000

/-- What an acknowledgement leaves: the first n chunks are let go. -/
def Sb.acks (F : Sb) (A E : Int) (n : Nat) : Sb := { F with acked := A, edge := E, L := F.L.drop n }
theorem Ck.behind_ge (c : Ck) : c.off ≤ c.behind := by unfold Ck.behind; split <;> omega
theorem Sb.Ok.rise {F : Sb} (h : F.Ok) {i j : Nat} (hij : i < j) (hj : j < F.L.length) : (F.L[i]'(by omega)).behind ≤ F.L[j].off := by
  have h1 := h.ch i (by omega)
  have hm : (F.L[i + 1]'(by omega)).off ≤ F.L[j].off := by
    by_cases e : i + 1 = j
    · subst e; exact Int.le_refl _
    · exact Int.le_of_lt (List.pairwise_iff_getElem.1 h.so (i + 1) j (by omega) hj (by omega))
  have h4 := List.pairwise_iff_getElem.1 h.so i j (by omega) hj hij
  unfold Ck.behind
  split
  · rename_i hf
    have h2 := (h.ck _ (List.getElem_mem (by omega : i < F.L.length))).fin hf
    have h3 := (h.ck _ (List.getElem_mem hj)).ol
    omega
  · omega
theorem Sb.acks_ok {F : Sb} (h : F.Ok) {A E : Int} (hA0 : F.acked ≤ A) (hA1 : A ≤ F.end_ + 1) (hE0 : 0 ≤ E) (hE1 : E ≤ 18446744073709551615) {n : Nat} (hn : ∀ h : n < F.L.length, A < F.L[n].behind) : (F.acks A E n).Ok := by
  have hsub : ∀ c ∈ F.L.drop n, c ∈ F.L := fun c hc => List.mem_of_mem_drop hc
  refine ⟨h.r0, h.r1, h.m0, h.m1, by have := h.a0; show 0 ≤ A; omega, hA1, h.h0, h.h1, h.e1, by have := h.fr; show F.end_ - F.room ≤ A; omega, hE0, hE1, fun c hc => ?_, h.so.sublist (List.drop_sublist _ _), ?_, fun e c hc => h.cl e c (hsub c hc), fun c hc => ?_, fun i hi => ?_, fun c hc => ?_⟩
  · have k := h.ck c (hsub c hc)
    exact ⟨k.o0, k.ol, k.on0, k.on1, k.cap, k.capm, k.fin, k.few⟩
  · show (F.L.drop n).length ≤ _
    have := h.nl
    simp
    omega
  · obtain ⟨i, hi, rfl⟩ := List.getElem_of_mem hc
    have hi' : n + i < F.L.length := by simp [Sb.acks] at hi; omega
    show A < ((F.L.drop n)[i]'(by simp; omega)).behind
    rw [List.getElem_drop]
    have h0 := hn (by omega)
    by_cases e : i = 0
    · subst e; exact h0
    · have h1 := h.rise (i := n) (j := n + i) (by omega) hi'
      have h2 := Ck.behind_ge (F.L[n + i]'hi')
      omega
  · have hi' : n + i + 1 < F.L.length := by simp [Sb.acks] at hi; omega
    have := h.ch (n + i) hi'
    show ((F.L.drop n)[i]'(by simp; omega)).off + ((F.L.drop n)[i]'(by simp; omega)).bs.length = ((F.L.drop n)[i + 1]'(by simp; omega)).off
    simp only [List.getElem_drop]
    exact this
  · have hc' : (F.L.drop n).getLast? = some c := hc
    rw [List.getLast?_drop] at hc'
    split at hc'
    · simp at hc'
    · exact h.la c hc'

theorem run_clear78 (w : World) (ap : Option Addr) (n g off : Nat) (arr : Array Value) (hg : w.heap[g]? = some (.cells arr 78 (0, 0))) (hpos : 0 < n → ap = some ⟨g, off, none⟩) (hfit : off + n * 6 ≤ arr.size) :
    ∃ w', (∀ ty c, (Builtin.clear_ #[72] ty #[.slice ap n c]).run Try.prog w = .ok (.tuple #[]) w') ∧ (∃ arr' : Array Value, w'.heap[g]? = some (.cells arr' 78 (0, 0)) ∧ arr'.size = arr.size ∧ ∀ j, off + n * 6 ≤ j → arr'[j]? = arr[j]?) ∧ w.grownBy w' (some g) := by
  obtain ⟨i, hi, hz0, hz1, hz2⟩ := info78
  cases n with
  | zero =>
    refine ⟨w, fun ty c => ?_, ⟨arr, hg, rfl, fun _ _ => rfl⟩, ⟨rfl, rfl, rfl, Nat.le_refl _, fun _ _ _ => rfl⟩⟩
    cases ap <;> simp [Builtin.clear_, run_underlying Try.underlying72]
  | succ n =>
    obtain rfl := hpos (by omega)
    obtain ⟨zs, hzs⟩ : ∃ zs, zs = (Builtin.zeroCells #[.int .u64 0, .slice none 0 0, .bool false, .int .u8 0, .bool false, .bool false] (n + 1)).toList := ⟨_, rfl⟩
    have hl : zs.length = (n + 1) * 6 := by rw [hzs]; simp [size_zeroCells]
    have h1 : ∀ v ∈ zs, v.oneCell' = true := by
      intro v hv
      rw [hzs] at hv
      simp only [Builtin.zeroCells, Array.toList_map, List.mem_map] at hv
      obtain ⟨k, _, rfl⟩ := hv
      have : k % 6 = 0 ∨ k % 6 = 1 ∨ k % 6 = 2 ∨ k % 6 = 3 ∨ k % 6 = 4 ∨ k % 6 = 5 := by omega
      rcases this with h | h | h | h | h | h <;> simp [h] <;> rfl
    have hst := run_storeCells_at Try.prog g off 78 zs 0 arr w hg (by omega) h1
    simp only [Nat.add_zero] at hst
    obtain ⟨ar, har⟩ : ∃ ar, ar = (arr.toList.take off ++ zs ++ arr.toList.drop (off + zs.length)).toArray := ⟨_, rfl⟩
    rw [← har] at hst
    refine ⟨w.setRow g ar, fun ty c => ?_, ⟨ar, setRow_heap w g _ ar 78 _ hg, ?_, ?_⟩, ⟨rfl, rfl, rfl, by simp, fun k _ hk => setRow_other w g k ar (fun e => hk (by rw [e]))⟩⟩
    · simp [Builtin.clear_, run_underlying Try.underlying72, zeroValue, typeInfo, hi, hz0, Value.cells, ← hzs, hst]
    · rw [har]
      simp [hl]
      omega
    · intro j hj
      rw [har, List.getElem?_toArray, List.getElem?_append_right (by simp [hl]; omega), List.getElem?_drop, Array.getElem?_toList]
      congr 1
      simp [hl]
      omega
end Go.Proofs.Ytnohammflhadpaa
