import Derived.Test.YtnohammflhadpaaSb27
namespace Go.Proofs.Ytnohammflhadpaa
open Go.RowKit Go.Maps Go.Sort
set_option maxRecDepth 100000

theorem SbW.far {w w' : World} {p : Nat} {F : Sb} {a : Option Addr} {cap : Nat} {T : Nat → Prop} (h : SbW w p F a cap) (hf : Fr T w w') (hp : ¬ T p) (ha : ∀ g o, a = some ⟨g, o, none⟩ → ¬ T g) (hb : ∀ c ∈ F.L, ∀ g o, c.a = some ⟨g, o, none⟩ → ¬ T g) : SbW w' p F a cap := by
  refine ⟨⟨hf.row h.r.row hp, fun k hk => ?_, fun c hc i hi => ?_, h.r.ok, h.r.lc, h.r.cm⟩, ?_, h.ap⟩
  · obtain ⟨g, o, e, q⟩ := h.r.ck k hk
    exact ⟨g, o, e, fun j v hv => hf.cell (q j v hv) (ha g o e)⟩
  · obtain ⟨g, o, e, q⟩ := h.r.by_ c hc i hi
    exact ⟨g, o, e, hf.cell q (hb c hc g o e)⟩
  · rcases h.own with e | ⟨g, o, arr, e, hg, hs⟩
    · exact .inl e
    · exact .inr ⟨g, o, arr, e, (hf.block g (Array.getElem?_eq_some_iff.1 hg).1 (ha g o e)).trans hg, hs⟩
/-- A buffer; S: its memory. -/
structure BfA (w : World) (p : Nat) (F : Sb) (S : Nat → Prop) (a : Option Addr) (cap : Nat) : Prop where
  sb : SbW w p F a cap
  sp : S p
  sa : ∀ g o, a = some ⟨g, o, none⟩ → S g
  sy : ∀ c ∈ F.L, ∀ g o, c.a = some ⟨g, o, none⟩ → S g
  lt : ∀ x, S x → x < w.heap.size
def Bf (w : World) (p : Nat) (F : Sb) (S : Nat → Prop) : Prop := ∃ a cap, BfA w p F S a cap
def grew (S : Nat → Prop) (w w' : World) : Nat → Prop := fun x => S x ∨ (w.heap.size ≤ x ∧ x < w'.heap.size)
theorem BfA.far {w w' : World} {p : Nat} {F : Sb} {S T : Nat → Prop} {a : Option Addr} {cap : Nat} (h : BfA w p F S a cap) (hf : Fr T w w') (hd : ∀ x, S x → ¬ T x) : BfA w' p F S a cap :=
  ⟨h.sb.far hf (hd p h.sp) (fun g o e => hd g (h.sa g o e)) (fun c hc g o e => hd g (h.sy c hc g o e)), h.sp, h.sa, h.sy, fun x hx => Nat.lt_of_lt_of_le (h.lt x hx) hf.size⟩
theorem BfA.kept {w w' : World} {p : Nat} {F : Sb} {S : Nat → Prop} {a : Option Addr} {cap : Nat} (h : BfA w p F S a cap) (hb : Below w.heap.size w w') : BfA w' p F S a cap :=
  ⟨h.sb.kept hb, h.sp, h.sa, h.sy, fun x hx => Nat.lt_of_lt_of_le (h.lt x hx) hb.size⟩
theorem Bf.far {w w' : World} {p : Nat} {F : Sb} {S T : Nat → Prop} (h : Bf w p F S) (hf : Fr T w w') (hd : ∀ x, S x → ¬ T x) : Bf w' p F S := by
  obtain ⟨a, cap, h⟩ := h
  exact ⟨a, cap, h.far hf hd⟩
theorem Bf.kept {w w' : World} {p : Nat} {F : Sb} {S : Nat → Prop} (h : Bf w p F S) (hb : Below w.heap.size w w') : Bf w' p F S := by
  obtain ⟨a, cap, h⟩ := h
  exact ⟨a, cap, h.kept hb⟩
theorem Bf.wider {w : World} {p : Nat} {F : Sb} {S T : Nat → Prop} (h : Bf w p F S) (hT : ∀ x, S x → T x) (hl : ∀ x, T x → x < w.heap.size) : Bf w p F T := by
  obtain ⟨a, cap, h⟩ := h
  exact ⟨a, cap, h.sb, hT _ h.sp, fun g o e => hT _ (h.sa g o e), fun c hc g o e => hT _ (h.sy c hc g o e), hl⟩
theorem Bf.lt {w : World} {p : Nat} {F : Sb} {S : Nat → Prop} (h : Bf w p F S) : ∀ x, S x → x < w.heap.size := by
  obtain ⟨a, cap, h⟩ := h
  exact h.lt
theorem Bf.ok {w : World} {p : Nat} {F : Sb} {S : Nat → Prop} (h : Bf w p F S) : F.Ok := by
  obtain ⟨a, cap, h⟩ := h
  exact h.sb.r.ok
theorem grew_lt {S : Nat → Prop} {w w' : World} (h : ∀ x, S x → x < w.heap.size) (hs : w.heap.size ≤ w'.heap.size) : ∀ x, grew S w w' x → x < w'.heap.size := fun x hx => by
  rcases hx with hx | hx
  · exact Nat.lt_of_lt_of_le (h x hx) hs
  · exact hx.2

/-- Where the chunks lie, and how long they are. -/
def Sb.prs (F : Sb) : List (Int × Nat) := F.L.map fun c => (c.off, c.bs.length)
/-- What an open stream is behind a call that is no Write. -/
structure Pl (F F' : Sb) : Prop where
  room : F'.room = F.room
  mss : F'.mss = F.mss
  end_ : F'.end_ = F.end_
  closed : F'.closed = F.closed
  up : F.acked ≤ F'.acked
  le : F'.acked ≤ F'.end_
  prs : ∃ n, F'.prs = F.prs.drop n
theorem Pl.refl {F : Sb} (h : F.acked ≤ F.end_) : Pl F F := ⟨rfl, rfl, rfl, rfl, Int.le_refl _, h, 0, rfl⟩
theorem Pl.trans {F G H : Sb} (h : Pl F G) (k : Pl G H) : Pl F H := by
  obtain ⟨n, hn⟩ := h.prs
  obtain ⟨m, hm⟩ := k.prs
  exact ⟨k.room.trans h.room, k.mss.trans h.mss, k.end_.trans h.end_, k.closed.trans h.closed, Int.le_trans h.up k.up, k.le, n + m, by rw [hm, hn, List.drop_drop]⟩
theorem pl_put {F : Sb} (h : F.acked ≤ F.end_) {k : Nat} (hk : k < F.L.length) {c : Ck} (hc : c.off = F.L[k].off ∧ c.bs = F.L[k].bs) : Pl F (F.put k c) := by
  refine ⟨rfl, rfl, rfl, rfl, Int.le_refl _, h, 0, ?_⟩
  show (F.L.set k c).map _ = F.L.map _
  rw [List.map_set, hc.1, hc.2]
  apply List.ext_getElem
  · simp
  · intro i h1 h2
    rw [List.getElem_set]
    split
    · rename_i e; subst e; simp
    · rfl
/-- What a call leaves of an open stream. -/
def PlAns (w : World) (p : Nat) (F : Sb) (S : Nat → Prop) (w' : World) : Prop := ∃ F', Bf w' p F' (grew S w w') ∧ Fr S w w' ∧ Pl F F'
theorem plans_below {w w' : World} {p : Nat} {F : Sb} {S : Nat → Prop} (h : Bf w p F S) (ha : F.acked ≤ F.end_) (hb : Below w.heap.size w w') : PlAns w p F S w' :=
  ⟨F, (h.kept hb).wider (fun _ hx => .inl hx) (grew_lt h.lt hb.size), Fr.of_below hb (Nat.le_refl _), Pl.refl ha⟩
theorem plans_same {w w' : World} {p : Nat} {F F' : Sb} {S T : Nat → Prop} {a : Option Addr} {cap : Nat} (h : BfA w p F S a cap) (hs : SbW w' p F' a cap) (hL : ∀ c ∈ F'.L, ∃ d ∈ F.L, c.a = d.a) (hf : Fr T w w') (hT : ∀ x, T x → S x) (hp : Pl F F') : PlAns w p F S w' :=
  ⟨F', ⟨a, cap, hs, .inl h.sp, fun g o e => .inl (h.sa g o e), fun c hc g o e => by
    obtain ⟨d, hd, e'⟩ := hL c hc
    exact .inl (h.sy d hd g o (e' ▸ e)), grew_lt h.lt hf.size⟩, hf.wider hT, hp⟩
theorem put_a {F : Sb} {k : Nat} (hk : k < F.L.length) {c : Ck} (hc : c.a = F.L[k].a) : ∀ d ∈ (F.put k c).L, ∃ e ∈ F.L, d.a = e.a := fun d hd => by
  rcases List.mem_or_eq_of_mem_set hd with h | h
  · exact ⟨d, h, rfl⟩
  · exact ⟨F.L[k], List.getElem_mem hk, by rw [h, hc]⟩
theorem BfA.at_ {w : World} {p : Nat} {F : Sb} {S : Nat → Prop} {a : Option Addr} {cap : Nat} (h : BfA w p F S a cap) {k : Nat} (hk : k < F.L.length) : ∃ g o, a = some ⟨g, o, none⟩ := by
  obtain ⟨g, o, arr, e, _⟩ := h.sb.blk hk
  exact ⟨g, o, e⟩

theorem sent_B {w : World} {p : Nat} {F : Sb} {S : Nat → Prop} (h : Bf w p F S) (ha : F.acked ≤ F.end_) (x off : Int) :
    Calls Try.prog 17 #[.pointer (some ⟨p, 0, none⟩), .int .i64 x, .int .u64 off] w fun e w' => (∃ b, e = .returned (.bool b)) ∧ PlAns w p F S w' := by
  obtain ⟨a, cap, h⟩ := h
  by_cases hn : ∃ k, F.find off k
  · obtain ⟨k, hk, he⟩ := hn
    obtain ⟨g, o, rfl⟩ := h.at_ hk
    cases hz : F.mayOn F.L[k] (bit x) with
    | true =>
      refine (sent_on h.sb x hk he hz).mono ?_
      rintro e w' ⟨rfl, hs, hf⟩
      have hp := pl_put ha hk (c := F.L[k].go (bit x)) ⟨rfl, rfl⟩
      exact ⟨⟨_, rfl⟩, plans_same h hs (put_a hk rfl) hf (fun y hy => by rcases hy with rfl | rfl; exact h.sa _ _ rfl; exact h.sp) ⟨hp.room, hp.mss, hp.end_, hp.closed, hp.up, hp.le, hp.prs⟩⟩
    | false =>
      refine (sent_off h.sb.r x hk he hz).mono ?_
      rintro e w' ⟨rfl, hb⟩
      exact ⟨⟨_, rfl⟩, plans_below ⟨_, cap, h⟩ ha hb⟩
  · refine (sent_none h.sb.r x off (fun k hk => hn ⟨k, hk⟩)).mono ?_
    rintro e w' ⟨rfl, hb⟩
    exact ⟨⟨_, rfl⟩, plans_below ⟨a, cap, h⟩ ha hb⟩
theorem lost_B {w : World} {p : Nat} {F : Sb} {S : Nat → Prop} (h : Bf w p F S) (ha : F.acked ≤ F.end_) (x off : Int) :
    Calls Try.prog 46 #[.pointer (some ⟨p, 0, none⟩), .int .i64 x, .int .u64 off] w fun e w' => (∃ b, e = .returned (.bool b)) ∧ PlAns w p F S w' := by
  obtain ⟨a, cap, h⟩ := h
  by_cases hn : ∃ k, F.isOn x off k
  · obtain ⟨k, hk, he, hz⟩ := hn
    obtain ⟨g, o, rfl⟩ := h.at_ hk
    refine (lost_on h.sb x hk he hz).mono ?_
    rintro e w' ⟨rfl, hs, hf⟩
    exact ⟨⟨_, rfl⟩, plans_same h hs (put_a hk rfl) hf (fun y hy => by subst hy; exact h.sa _ _ rfl) (pl_put ha hk ⟨rfl, rfl⟩)⟩
  · refine (lost_no h.sb.r x off (fun k hk => hn ⟨k, hk⟩)).mono ?_
    rintro e w' ⟨rfl, hb⟩
    exact ⟨⟨_, rfl⟩, plans_below ⟨a, cap, h⟩ ha hb⟩
theorem held_B {w : World} {p : Nat} {F : Sb} {S : Nat → Prop} (h : Bf w p F S) (ha : F.acked ≤ F.end_) (x off : Int) :
    Calls Try.prog 47 #[.pointer (some ⟨p, 0, none⟩), .int .i64 x, .int .u64 off] w fun e w' => (∃ b, e = .returned (.bool b)) ∧ PlAns w p F S w' := by
  obtain ⟨a, cap, h⟩ := h
  by_cases hn : ∃ k, F.isOn x off k
  · obtain ⟨k, hk, he, hz⟩ := hn
    obtain ⟨g, o, rfl⟩ := h.at_ hk
    refine (held_on h.sb x hk he hz).mono ?_
    rintro e w' ⟨rfl, hs, hf⟩
    exact ⟨⟨_, rfl⟩, plans_same h hs (put_a hk rfl) hf (fun y hy => by subst hy; exact h.sa _ _ rfl) (pl_put ha hk ⟨rfl, rfl⟩)⟩
  · refine (held_no h.sb.r x off (fun k hk => hn ⟨k, hk⟩)).mono ?_
    rintro e w' ⟨rfl, hb⟩
    exact ⟨⟨_, rfl⟩, plans_below ⟨a, cap, h⟩ ha hb⟩
theorem ack_B {w : World} {p : Nat} {F : Sb} {S : Nat → Prop} (h : Bf w p F S) (hc : F.closed = false) (ha : F.acked ≤ F.end_) (v E : Int) (hE0 : 0 ≤ E) (hE1 : E ≤ 18446744073709551615) :
    Calls Try.prog 18 #[.pointer (some ⟨p, 0, none⟩), .int .u64 v, .int .u64 E] w fun e w' => (∃ b, e = .returned (.bool b)) ∧ PlAns w p F S w' := by
  obtain ⟨a, cap, h⟩ := h
  have he := endOut_f h.sb.r hc
  by_cases hv : F.high < v
  · refine (ack_no h.sb.r he E (by simpa using hv)).mono ?_
    rintro e w' ⟨rfl, hb⟩
    exact ⟨⟨_, rfl⟩, plans_below ⟨a, cap, h⟩ ha hb⟩
  · refine (ack_yes h.sb he hE0 hE1 (by simpa using hv)).mono ?_
    rintro e w' ⟨rfl, n, a', cap', hD⟩
    have h1 := h.sb.r.ok.h1
    refine ⟨⟨_, rfl⟩, _, ⟨a', cap', hD.sb, .inl h.sp, fun g o e => ?_, fun c hc g o e => .inl (h.sy c (List.mem_of_mem_drop hc) g o e), grew_lt h.lt hD.fr.size⟩, hD.fr.wider (fun x hx => ?_), ⟨rfl, rfl, rfl, rfl, Int.le_max_left _ _, ?_, n, ?_⟩⟩
    · obtain ⟨o', e'⟩ := hD.ap g o e
      exact .inl (h.sa g o' e')
    · rcases hx with rfl | ⟨o, e⟩
      · exact h.sp
      · exact h.sa _ _ e
    · show max F.acked v ≤ F.end_
      omega
    · show (F.L.drop n).map _ = (F.L.map _).drop n
      rw [List.map_drop]
end Go.Proofs.Ytnohammflhadpaa
