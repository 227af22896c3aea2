import Derived.Test.YtahkbklhngiloaaCr0
namespace Go.Proofs.Ytahkbklhngiloaa
open Go.RowKit Go.Maps
set_option maxRecDepth 100000

/-- An account lies from a cell of a block on. -/
structure AcAt (w : World) (g o : Nat) (A : Ac) : Prop where
  c0 : w.cell? ⟨g, o, none⟩ = some (.int .u64 A.sent)
  c1 : w.cell? ⟨g, o + 1, none⟩ = some (.int .u64 A.may)
  c2 : w.cell? ⟨g, o + 2, none⟩ = some (.int .u64 A.came)
  c3 : w.cell? ⟨g, o + 3, none⟩ = some (.int .u64 A.used)
  c4 : w.cell? ⟨g, o + 4, none⟩ = some (.int .u64 A.told)
  f : ∀ j, w.frozen? ⟨g, j, none⟩ = false
/-- What an account's numbers may be. -/
structure Ac.Ok (A : Ac) : Prop where
  s0 : 0 ≤ A.sent
  s1 : A.sent ≤ A.may
  m : A.may ≤ 4611686018427387904
  u0 : 0 ≤ A.used
  u1 : A.used ≤ A.came
  c : A.came ≤ A.told
  t : A.told ≤ 4611686018427387904
abbrev pt (g o : Nat) : Value := .pointer (some ⟨g, o, none⟩)
set_option maxHeartbeats 1000000 in
theorem left_any {w : World} {g o : Nat} {A : Ac} (h : AcAt w g o A) (k : A.Ok) : Calls Try.prog 45 #[pt g o] w fun e w' => e = .returned (.int .u64 (A.may - A.sent)) ∧ ∃ q, w' = w.drewN q := by
  have c0 := h.c0
  have c1 := h.c1
  have k1 := k.s0
  have k2 := k.s1
  have k3 := k.m
  clear h k
  go_enter Try.func45, Try.ntmps45
  go_upto_region 1 with fail
  go_region
  go_wp2
  go_ret
  exact ⟨rfl, _, rfl⟩
set_option maxHeartbeats 1000000 in
theorem awaited_any {w : World} {g o : Nat} {A : Ac} (h : AcAt w g o A) (k : A.Ok) : Calls Try.prog 39 #[pt g o] w fun e w' => e = .returned (.int .u64 (A.told - A.came)) ∧ ∃ q, w' = w.drewN q := by
  have c0 := h.c2
  have c1 := h.c4
  have k0 := k.u0
  have k1 := k.u1
  have k2 := k.c
  have k3 := k.t
  clear h k
  go_enter Try.func39, Try.ntmps39
  go_upto_region 1 with fail
  go_region
  go_wp2
  go_ret
  exact ⟨rfl, _, rfl⟩
set_option maxHeartbeats 1000000 in
theorem unused_any {w : World} {g o : Nat} {A : Ac} (h : AcAt w g o A) (k : A.Ok) : Calls Try.prog 43 #[pt g o] w fun e w' => e = .returned (.int .u64 (A.came - A.used)) ∧ ∃ q, w' = w.drewN q := by
  have c0 := h.c2
  have c1 := h.c3
  have k0 := k.u0
  have k1 := k.u1
  have k2 := k.c
  have k3 := k.t
  clear h k
  go_enter Try.func43, Try.ntmps43
  go_upto_region 1 with fail
  go_region
  go_wp2
  go_ret
  exact ⟨rfl, _, rfl⟩
theorem spend_any {w : World} {g o : Nat} {A : Ac} (h : AcAt w g o A) (k : A.Ok) {n : Int} (h0 : 0 ≤ n) (h1 : n ≤ A.may - A.sent) : Calls Try.prog 44 #[pt g o, .int .u64 n] w fun e w' => e = .returned (.tuple #[]) ∧ w' = w.setCell ⟨g, o, none⟩ (.int .u64 (A.sent + n)) := by
  have c0 := h.c0
  have f0 := h.f o
  have k1 := k.s0
  have k2 := k.s1
  have k3 := k.m
  clear h k
  go_enter Try.func44, Try.ntmps44
  go_wp2
  refine bodyPost_end (results_none Try.results44 _ _ _) rfl ?_
  exact ⟨rfl, rfl⟩
theorem take_any {w : World} {g o : Nat} {A : Ac} (h : AcAt w g o A) (k : A.Ok) {n : Int} (h0 : 0 ≤ n) (h1 : n ≤ A.told - A.came) : Calls Try.prog 40 #[pt g o, .int .u64 n] w fun e w' => e = .returned (.tuple #[]) ∧ w' = w.setCell ⟨g, o + 2, none⟩ (.int .u64 (A.came + n)) := by
  have c0 := h.c2
  have f0 := h.f (o + 2)
  have k0 := k.u0
  have k1 := k.u1
  have k2 := k.c
  have k3 := k.t
  clear h k
  go_enter Try.func40, Try.ntmps40
  go_wp2
  refine bodyPost_end (results_none Try.results40 _ _ _) rfl ?_
  exact ⟨rfl, rfl⟩
theorem ause_any {w : World} {g o : Nat} {A : Ac} (h : AcAt w g o A) (k : A.Ok) {n : Int} (h0 : 0 ≤ n) (h1 : n ≤ A.came - A.used) : Calls Try.prog 56 #[pt g o, .int .u64 n] w fun e w' => e = .returned (.tuple #[]) ∧ w' = w.setCell ⟨g, o + 3, none⟩ (.int .u64 (A.used + n)) := by
  have c0 := h.c3
  have f0 := h.f (o + 3)
  have k0 := k.u0
  have k1 := k.u1
  have k2 := k.c
  have k3 := k.t
  clear h k
  go_enter Try.func56, Try.ntmps56
  go_wp2
  refine bodyPost_end (results_none Try.results56 _ _ _) rfl ?_
  exact ⟨rfl, rfl⟩
/-- A limit is heard. -/
theorem raise_any {w : World} {g o : Nat} {A : Ac} (h : AcAt w g o A) (k : A.Ok) {n : Int} : Calls Try.prog 38 #[pt g o, .int .u64 n] w fun e w' => e = .returned (.bool (decide (A.may < n))) ∧ w' = w.setCell ⟨g, o + 1, none⟩ (.int .u64 (max A.may n)) := by
  have c0 := h.c1
  have f0 := h.f (o + 1)
  have k1 := k.s0
  have k2 := k.s1
  have k3 := k.m
  clear h k
  go_enter Try.func38, Try.ntmps38
  go_wp2
  go_ret
  exact ⟨by first | rfl | simp, by first | rfl | simp⟩
/-- The limit that is told now. -/
def Ac.limit (A : Ac) (room : Int) : Int := min (A.used + room) 4611686018427387904
def Ac.due (A : Ac) (room : Int) : Bool := decide (room - room / 2 ≤ A.limit room - A.told)
theorem tell_any {w : World} {g o : Nat} {A : Ac} (h : AcAt w g o A) (k : A.Ok) {n : Int} (h0 : 1 ≤ n) (h1 : n ≤ 1099511627776) (hl : A.told ≤ A.limit n) : Calls Try.prog 58 #[pt g o, .int .u64 n] w fun e w' => e = .returned (.bool (A.due n)) ∧ w' = if A.due n then w.setCell ⟨g, o + 4, none⟩ (.int .u64 (A.limit n)) else w := by
  have c0 := h.c3
  have c1 := h.c4
  have f0 := h.f (o + 4)
  have k0 := k.u0
  have k1 := k.u1
  have k2 := k.c
  have k3 := k.t
  clear h k
  unfold Ac.due
  have HL := hid (show A.limit n = min (A.used + n) 4611686018427387904 from rfl)
  have k4 : A.limit n ≤ 4611686018427387904 := by unfold Ac.limit; omega
  generalize A.limit n = L at *
  have k5 : min (A.used + n) 4611686018427387904 = L := HL.out.symm
  go_enter Try.func58, Try.ntmps58
  by_cases hd : n - n / 2 ≤ L - A.told
  · have hd' : ¬ L - A.told < n - n / 2 := by omega
    go_wp2
    go_ret
    exact ⟨rfl, rfl⟩
  · have hd' : L - A.told < n - n / 2 := by omega
    go_wp2
    go_ret
    exact ⟨rfl, rfl⟩
end Go.Proofs.Ytahkbklhngiloaa
