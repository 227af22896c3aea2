import Derived.Test.YtkhogbnoincbeabAll0
namespace Go.Proofs.Ytkhogbnoincbeab
open Go.RowKit Go.Maps Go.Sort
set_option maxRecDepth 100000

theorem pcells_one {x : PF × Value} {a : Option Addr} {n c : Nat} (h : x.2 = .slice a n c) : ∀ v ∈ pcells x, v.oneCell' = true := by
  intro v hv
  simp only [pcells, List.mem_cons, List.not_mem_nil, or_false] at hv
  rcases hv with rfl | rfl | rfl | rfl | rfl | rfl
  · rfl
  · rfl
  · rfl
  · rfl
  · rfl
  · rw [h]; rfl
theorem info25 : ∃ i : TypeInfo, Try.prog.info? 41 = some i ∧ i.zero = some (.agg #[.int .i64 0, .int .u64 0, .int .u64 0, .int .i64 0, .int .i64 0, .slice none 0 0]) ∧ i.size = 6 ∧ i.bytes = 64 := by
  have h : (Try.prog.info? 41).isSome = true := by kernel_rfl
  obtain ⟨i, hi⟩ := Option.isSome_iff_exists.1 h
  refine ⟨i, hi, ?_, ?_, ?_⟩
  · have : (Try.prog.info? 41).bind (·.zero) = some (.agg #[.int .i64 0, .int .u64 0, .int .u64 0, .int .i64 0, .int .i64 0, .slice none 0 0]) := by kernel_rfl
    rw [hi] at this
    exact this
  · have : (Try.prog.info? 41).map (·.size) = some 6 := by kernel_rfl
    rw [hi] at this
    simpa using this
  · have : (Try.prog.info? 41).map (·.bytes) = some 64 := by kernel_rfl
    rw [hi] at this
    simpa using this
theorem bsl25 (w : World) (a b c d e f : Value) : (Instr.buildSlice 53 1 #[(0, .agg #[a, b, c, d, e, f])]).run Try.prog w = .ok (.slice (some ⟨w.heap.size, 0, none⟩) 1 1) (w.alloc (.cells #[a, b, c, d, e, f] 41)) := by kernel_rfl
section
variable {S : Nat → Prop} {w w' : World} {B : Nat} {v : Value} {Ps : List (PF × Value)}
theorem own_row25 {base : Nat} {e : TypeId} {size n : Nat} {xs : List Value} (h : w.ownsRow base e size v n xs) {g : Nat} (hg : v.ownBlock = some g) : ∃ c, Row w g c e := by
  rcases h.2 with ⟨rfl, _⟩ | ⟨g', cap, cur, rfl, _, h2, _⟩
  · simp [Value.ownBlock] at hg
  · simp [Value.ownBlock] at hg
    subst hg
    exact ⟨cur.toList, ⟨by simpa using h2⟩⟩
theorem FrV.fr (h : FrV w B v Ps) (hf : Fr S w w') (h1 : ∀ g c, Row w g c 41 → ¬ S g) (h2 : ∀ x ∈ Ps, ∀ g, x.2.ownBlock = some g → ¬ S g) : FrV w' B v Ps := by
  refine ⟨hf.own h.own (fun x hx => ?_), fun x hx => ?_, h.ap⟩
  · obtain ⟨c, hr⟩ := own_row25 h.own hx
    exact h1 x c hr
  · rcases h.dt x hx with hd | ⟨g, e, hr, hg⟩
    · exact .inl hd
    · exact .inr ⟨g, e, hf.row hr (h2 x hx g (by rw [e]; rfl)), hg⟩
theorem FrV.kept (h : FrV w B v Ps) (hb : Below w.heap.size w w') : FrV w' B v Ps :=
  h.fr (S := fun _ => False) (Fr.of_below hb (Nat.le_refl _)) (fun _ _ _ e => e) (fun _ _ _ _ e => e)
/-- One more frame. -/
theorem push_fr (h : FrV w B v Ps) (hB : B ≤ w.heap.size) (hl : Ps.length ≤ 134217728) {x : PF × Value} {a : Option Addr} {n c : Nat} (hx : x.2 = .slice a n c) {bx : Nat} (hb : Row w bx (pcells x) 41) (ty : TypeId) :
    ∃ v' w', (Builtin.append_ #[53, 53] ty #[v, .slice (some ⟨bx, 0, none⟩) 1 1]).run Try.prog w = .ok v' w' ∧ w'.ownsRow B 41 6 v' (Ps ++ [x]).length (flatP (Ps ++ [x])) ∧ Fr (fun k => v.ownBlock = some k) w w' ∧ ∃ a' c', v' = .slice a' (Ps ++ [x]).length c' := by
  obtain ⟨i, h1, h2, h3, h4⟩ := info25
  obtain ⟨v', w', hr, ho, hg, _, ha⟩ := run_append_own_at (P := Try.prog) w B 53 ty 41 i _ 6 64 Try.underlying53 h1 h2 h3 h4 rfl (by decide) v Ps.length (flatP Ps) h.own ⟨bx, 0, none⟩ 1 1 (pcells x) rfl (fun j u hu => by
    rw [Addr.add_mid, Nat.zero_add]; exact hb.cell j u hu) (pcells_one hx) (by unfold maxLen; omega) (by omega) hB
  have e : (Ps ++ [x]).length = Ps.length + 1 := by simp
  refine ⟨v', w', hr, ?_, Fr.of_grown hg (fun k e => .inl e), ?_⟩
  · rw [e, flatP_app]
    rw [show flatP [x] = pcells x by simp [flatP]]
    exact ho
  · rw [e]
    rcases ho.2 with ⟨rfl, e0⟩ | ⟨g, cap, cur, rfl, _⟩
    · omega
    · exact ⟨_, _, rfl⟩
end
theorem Dt.shape {w : World} {B : Nat} {d : Value} {bs : List (BitVec 8)} (h : Dt w B d bs) : ∃ a n c, d = .slice a n c := by
  rcases h with ⟨rfl, _⟩ | ⟨g, rfl, _⟩
  · exact ⟨_, _, _, rfl⟩
  · exact ⟨_, _, _, rfl⟩
theorem Dt.new {w : World} {B : Nat} {d : Value} {bs : List (BitVec 8)} (h : Dt w B d bs) {g : Nat} (hg : d.ownBlock = some g) : B ≤ g := by
  rcases h with ⟨rfl, _⟩ | ⟨g', rfl, _, h3⟩
  · simp [Value.ownBlock] at hg
  · simp [Value.ownBlock] at hg
    omega
theorem Dt.lt {w : World} {B : Nat} {d : Value} {bs : List (BitVec 8)} (h : Dt w B d bs) {g : Nat} (hg : d.ownBlock = some g) : g < w.heap.size ∧ Row w g (bcells bs) 5 := by
  rcases h with ⟨rfl, _⟩ | ⟨g', rfl, h2, h3⟩
  · simp [Value.ownBlock] at hg
  · simp [Value.ownBlock] at hg
    subst hg
    exact ⟨h2.lt, h2⟩
/-- What the law's reading has come to: T has been written; X: nothing more can be read. -/
def AS (B : Nat) (q p : Nat) (T : List (BitVec 8)) (X : Prop) (s9 s10 : Value) (W : World) : Prop :=
  B ≤ W.heap.size ∧ ∃ Ps, FrV W B s9 Ps ∧ Ps.length ≤ T.length ∧
    ((∃ vr L, s10 = .int .i64 0 ∧ RdS B W q p vr L ((T.length - L.length : Nat) : Int) T.length ∧ L.length ≤ T.length ∧ Ps.length + L.length ≤ T.length ∧ Pr T = (Ps.map (·.1) ++ (Pr L).1, (Pr L).2) ∧ (∀ x ∈ Ps, ∀ g, x.2.ownBlock = some g → vr.ownBlock ≠ some g) ∧ (X → (allA PF.zero L).1 = 174)) ∨
     ∃ er R lf, ¬ er = 0 ∧ s10 = .int .i64 er ∧ RdrF B W q (.pointer (some ⟨p, 0, none⟩)) lf ((T.length - R.length : Nat) : Int) er ∧ R.length ≤ T.length ∧ Pr T = (Ps.map (·.1), er, R))
end Go.Proofs.Ytkhogbnoincbeab
