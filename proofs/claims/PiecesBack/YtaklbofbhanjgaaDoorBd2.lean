import Derived.Test.YtaklbofbhanjgaaDoorPu0
import Derived.Test.YtaklbofbhanjgaaDoorMp0
namespace Go.Proofs.YtaklbofbhanjgaaDoor
open Go.RowKit Go.Maps
set_option maxRecDepth 100000
theorem bytes_cut {w : World} {a : Option Addr} {bs : List (BitVec 8)} (h : BytesAt w a bs) (L p : Nat) : BytesAt w (a.map fun x => x.add L) ((bs.drop L).take p) := fun k hk => by
  have hk2 : L + k < bs.length := by simp at hk; omega
  obtain ⟨g, o, e, hc⟩ := h (L + k) hk2
  refine ⟨g, o + L, ?_, ?_⟩
  · rw [e]; simp [Addr.add_mid]
  · rw [show o + L + k = o + (L + k) by omega, hc]
    simp
set_option maxHeartbeats 4000000 in
theorem cut_any {g o n c p i : Nat} {a : Option Addr} {w : World} (h0 : w.cell? ⟨g, o, none⟩ = some (.slice a n c)) (h1 : w.cell? ⟨g, o + 1, none⟩ = some (.int .i64 (p : Int))) (hp1 : 1 ≤ p) (hp : p ≤ 65536) (hn : n ≤ 16777216) (hc : n ≤ c) (hc2 : c ≤ 9223372036854775807) (hi : i * p < n) :
    Calls Tryd.prog 62 #[.pointer (some ⟨g, o, none⟩), .int .i64 (i : Int)] w fun e w' => e = .returned (.slice (a.map fun x => x.add (i * p)) (min p (n - i * p)) (min p (n - i * p))) ∧ Below w.heap.size w w' := by
  have hi2 : i ≤ 16777216 := by
    have := Nat.le_mul_of_pos_right i hp1
    omega
  obtain ⟨L, hL⟩ : ∃ L, i * p = L := ⟨_, rfl⟩
  have hLi : (i : Int) * (p : Int) = (L : Int) := by rw [← hL]; simp
  rw [hL] at hi ⊢
  have q1 : (L : Int) < n := by omega
  have q2 : (n : Int) ≤ 16777216 := by omega
  have q3 : (p : Int) ≤ 65536 := by omega
  have q4 : (n : Int) ≤ c := by omega
  have q5 : (c : Int) ≤ 9223372036854775807 := by omega
  have q6 : (1 : Int) ≤ p := by omega
  have HN : Hid ((min ((L : Int) + p) (n : Int)).toNat - L = min p (n - L)) := by show _ = _; omega
  clear hL hi hi2 hp hn hc hc2 hp1
  have HBd : Hid (Below w.heap.size w w.drew) := ⟨rfl, rfl, rfl, Nat.le_refl _, fun _ _ => rfl⟩
  go_enter Tryd.func62, Tryd.ntmps62
  go_upto_region 2 with (fail)
  have q7 : (L : Int) < min ((L : Int) + p) (n : Int) := by omega
  have q8 : min ((L : Int) + p) (n : Int) ≤ n := by omega
  go_region
  go_wp2
  all_goals go_ret
  all_goals first
    | exact ⟨by rw [HN.out]; rfl, HBd.out⟩
    | (exfalso; omega)
end Go.Proofs.YtaklbofbhanjgaaDoor
namespace Go.Proofs.YtaklbofbhanjgaaDoor
open Go.RowKit Go.Maps
open Go.ChangeMaps (setBlock heap_setBlock_same heap_setBlock_other)
open Go.MapKept (stamped_iff stamped_empty)
open Go.WideElems (Fit)
set_option maxRecDepth 100000
/-- A root's key. -/
def kv (lo hi : Nat) : Value := .agg #[.int .u64 (lo : Int), .int .u64 (hi : Int)]
def RU (_ : Value) : Option (DataW Unit × List MemPlace) := some (.nil, [])
theorem kv_inj {a b c d : Nat} (h : kv a b = kv c d) : a = c ∧ b = d := by
  unfold kv at h
  simp only [Value.agg.injEq, Array.mk.injEq, List.cons.injEq, Value.int.injEq, true_and, and_true] at h
  omega
theorem kv_key {a b : Nat} (ha : a ≤ 16777216) (hb : b ≤ 16777216) : ∃ kl, keyOf Tryd.prog 92 (kv a b) = some kl := key92 (by omega) (by omega) (by omega) (by omega)
/-- The roots that are kept. -/
def MemoAt (w : World) (m : Nat) (P : List (List (BitVec 8))) : Prop :=
  ∃ es clock, w.heap[m]? = some (.map es clock) ∧ Fit Tryd.prog 92 RU es clock ∧ ∀ x ∈ es.toList, ∃ lo hi : Nat, lo < hi ∧ hi ≤ P.length ∧ x.key = kv lo hi ∧ x.val = .agg (bcells (overL P lo hi)).toArray
theorem MemoAt.lt {w : World} {m : Nat} {P : List (List (BitVec 8))} (h : MemoAt w m P) : m < w.heap.size := by
  obtain ⟨es, clock, hb, -, -⟩ := h
  exact (Array.getElem?_eq_some_iff.1 hb).1
theorem MemoAt.of_block {w w' : World} {m : Nat} {P : List (List (BitVec 8))} (h : MemoAt w m P) (e : w'.heap[m]? = w.heap[m]?) : MemoAt w' m P := by
  obtain ⟨es, clock, hb, h2⟩ := h
  exact ⟨es, clock, e.trans hb, h2⟩
theorem MemoAt.fr {S : Nat → Prop} {w w' : World} {m : Nat} {P : List (List (BitVec 8))} (h : MemoAt w m P) (f : Fr S w w') (hS : ¬ S m) : MemoAt w' m P := h.of_block (f.block m h.lt hS)
theorem MemoAt.new (w : World) (P : List (List (BitVec 8))) : MemoAt (w.alloc (.map #[] 0)) w.heap.size P :=
  ⟨#[], 0, (Go.MapKept.heap_alloc w _).1, ⟨by simp, stamped_empty 0, by simp⟩, fun x hx => by simp at hx⟩
theorem zero25 (w : World) : (zeroValue 25).run Tryd.prog w = .ok (.agg (bcells z32).toArray) w := by kernel_rfl
/-- What a root's key asks for. -/
theorem MemoAt.look {w : World} {m : Nat} {P : List (List (BitVec 8))} (h : MemoAt w m P) {lo hi : Nat} (hl : lo ≤ 16777216) (hh : hi ≤ 16777216) :
    (Instr.lookup 61 (.map (some m)) (kv lo hi) true).run Tryd.prog w = .ok (.tuple #[.agg (bcells z32).toArray, .bool false]) w ∨ (Instr.lookup 61 (.map (some m)) (kv lo hi) true).run Tryd.prog w = .ok (.tuple #[.agg (bcells (overL P lo hi)).toArray, .bool true]) w := by
  obtain ⟨es, clock, hb, F, hx⟩ := h
  obtain ⟨kl, hk⟩ := kv_key hl hh
  rcases Maps.fit_look true law92 Tryd.underlying61 (zero25 w) hb F hk with ⟨hrun, _, _⟩ | ⟨e0, y, hm, he, hrun, _⟩
  · exact .inl hrun
  · obtain ⟨a, b, _, _, hka, hv⟩ := hx e0 hm
    obtain ⟨rfl, rfl⟩ := kv_inj (he.symm.trans hka)
    rw [hv] at hrun
    exact .inr hrun
/-- The same in whatever memory has the map as it is. -/
theorem MemoAt.look2 {w : World} {m : Nat} {P : List (List (BitVec 8))} (h : MemoAt w m P) {lo hi : Nat} (hl : lo ≤ 16777216) (hh : hi ≤ 16777216) :
    (∀ w' : World, w'.heap[m]? = w.heap[m]? → (Instr.lookup 61 (.map (some m)) (kv lo hi) true).run Tryd.prog w' = .ok (.tuple #[.agg (bcells z32).toArray, .bool false]) w') ∨ (∀ w' : World, w'.heap[m]? = w.heap[m]? → (Instr.lookup 61 (.map (some m)) (kv lo hi) true).run Tryd.prog w' = .ok (.tuple #[.agg (bcells (overL P lo hi)).toArray, .bool true]) w') := by
  obtain ⟨es, clock, hb, F, hx⟩ := h
  obtain ⟨kl, hk⟩ := kv_key hl hh
  by_cases e : ∃ x ∈ es.toList, x.key = kv lo hi
  · right
    intro w' hw
    rcases Maps.fit_look true law92 Tryd.underlying61 (zero25 w') (hw.trans hb) F hk with ⟨_, h2, _⟩ | ⟨e0, y, hm, he, hrun, _⟩
    · obtain ⟨x, hxm, hxk⟩ := e
      exact absurd hxk (h2 x hxm)
    · obtain ⟨a, b, _, _, hka, hv⟩ := hx e0 hm
      obtain ⟨rfl, rfl⟩ := kv_inj (he.symm.trans hka)
      rw [hv] at hrun
      exact hrun
  · left
    intro w' hw
    rcases Maps.fit_look true law92 Tryd.underlying61 (zero25 w') (hw.trans hb) F hk with ⟨hrun, _, _⟩ | ⟨e0, y, hm, he, hrun, _⟩
    · exact hrun
    · exact absurd ⟨e0, hm, he⟩ e
theorem MemoAt.room {es : Array MapEntry} {clock : Nat} {P : List (List (BitVec 8))} (hP : P.length ≤ 16777216) (F : Fit Tryd.prog 92 RU es clock) (hx : ∀ x ∈ es.toList, ∃ lo hi : Nat, lo < hi ∧ hi ≤ P.length ∧ x.key = kv lo hi ∧ x.val = .agg (bcells (overL P lo hi)).toArray) : es.size < maxLen := by
  have hn : es.toList.Pairwise (fun x y => x.key ≠ y.key) := ((stamped_iff es clock).1 F.stamped).2.2
  let code : Value → Nat := fun v => match v with
    | .agg cs => match cs.toList with
      | [.int _ a, .int _ b] => a.toNat * 16777217 + b.toNat
      | _ => 0
    | _ => 0
  have hc : ∀ a b : Nat, code (kv a b) = a * 16777217 + b := fun a b => by simp [code, kv]
  have hnd : (es.toList.map fun x => code x.key).Nodup := by
    rw [List.Nodup, List.pairwise_map]
    refine List.Pairwise.imp_of_mem ?_ hn
    intro x y hxm hym hne e
    obtain ⟨a, b, h1, h2, h3, _⟩ := hx x hxm
    obtain ⟨c, d, h4, h5, h6, _⟩ := hx y hym
    rw [h3, h6, hc, hc] at e
    have e1 : a = c := by omega
    have e2 : b = d := by omega
    subst e1 e2
    exact hne (h3.trans h6.symm)
  have hl := nodup_len (16777217 * 16777217) _ hnd (fun z hz => by
    obtain ⟨x, hxm, rfl⟩ := List.mem_map.1 hz
    obtain ⟨a, b, h1, h2, h3, _⟩ := hx x hxm
    rw [h3, hc]
    omega)
  simp only [List.length_map, Array.length_toList] at hl
  unfold maxLen
  omega
/-- A root is laid in. -/
theorem MemoAt.put {w : World} {m : Nat} {P : List (List (BitVec 8))} (h : MemoAt w m P) (hP : P.length ≤ 16777216) {lo hi : Nat} (hl : lo < hi) (hh : hi ≤ P.length) :
    ∃ w', (Instr.mapUpdate 61 (.map (some m)) (kv lo hi) (.agg (bcells (overL P lo hi)).toArray)).run Tryd.prog w = .ok () w' ∧ MemoAt w' m P ∧ Fr (fun k => k = m) w w' := by
  obtain ⟨es, clock, hb, F, hx⟩ := h
  obtain ⟨kl, hk⟩ := kv_key (a := lo) (b := hi) (by omega) (by omega)
  obtain ⟨es', clock', hrun, F', _, _, _, hel⟩ := Maps.fit_store (R' := RU) law92 Tryd.underlying61 hb F (MemoAt.room hP F hx) (fun _ _ _ _ hz => hz) hk (val := .agg (bcells (overL P lo hi)).toArray) (yv := (.nil, [])) rfl
  refine ⟨_, hrun, ⟨es', clock', heap_setBlock_same hb _, F', fun x hxm => ?_⟩, ⟨rfl, rfl, rfl, by simp [setBlock], fun i _ hi => heap_setBlock_other hb _ (fun e => hi e)⟩⟩
  rcases hel x hxm with ⟨h1, _⟩ | ⟨h1, h2⟩
  · exact hx x h1
  · exact ⟨lo, hi, hl, hh, h1, h2⟩
end Go.Proofs.YtaklbofbhanjgaaDoor
namespace Go.Proofs.YtaklbofbhanjgaaDoor
open Go.RowKit Go.Maps
set_option maxRecDepth 100000
/-- The digests of a file's pieces. -/
def leavesL (bs : List (BitVec 8)) (p : Nat) : List (List (BitVec 8)) := (List.range ((bs.length + p - 1) / p)).map fun k => leafS ((bs.drop (k * p)).take p)
theorem leavesL_len (bs : List (BitVec 8)) (p : Nat) : (leavesL bs p).length = (bs.length + p - 1) / p := by simp [leavesL]
theorem leavesL_32 (bs : List (BitVec 8)) (p : Nat) : ∀ x ∈ leavesL bs p, x.length = 32 := fun x hx => by
  simp only [leavesL, List.mem_map] at hx
  obtain ⟨k, -, rfl⟩ := hx
  exact sha_len _
theorem leavesL_get {bs : List (BitVec 8)} {p k : Nat} (h : k < (leavesL bs p).length) : (leavesL bs p).getD k z32 = leafS ((bs.drop (k * p)).take p) := by
  rw [List.getD_eq_getElem?_getD, List.getElem?_eq_getElem h]
  simp [leavesL]
theorem leavesL_at {bs : List (BitVec 8)} {p k : Nat} (hp : 1 ≤ p) (h : k < (leavesL bs p).length) : k * p < bs.length := by
  rw [leavesL_len] at h
  have h1 : (k + 1) * p ≤ bs.length + p - 1 := Nat.le_trans (Nat.mul_le_mul_right p h) (Nat.div_mul_le_self _ _)
  rw [Nat.add_mul, Nat.one_mul] at h1
  omega
/-- A body: its cells, its bytes, the roots that are kept. -/
structure BdI (g o : Nat) (a : Option Addr) (c p m : Nat) (bs : List (BitVec 8)) (B : Nat) (w : World) : Prop where
  cy : w.cell? ⟨g, o, none⟩ = some (.slice a bs.length c)
  cp : w.cell? ⟨g, o + 1, none⟩ = some (.int .i64 (p : Int))
  cm : w.cell? ⟨g, o + 2, none⟩ = some (.map (some m))
  cb : BytesAt w a bs
  cr : MemoAt w m (leavesL bs p)
  gB : g < B
  mB : m < B
  ne : g ≠ m
  m1 : 2 ≤ m
  aB : ∀ k, k < bs.length → ∀ g' o', a = some ⟨g', o', none⟩ → g' < B ∧ g' ≠ m
section
variable {g o c p m B : Nat} {a : Option Addr} {bs : List (BitVec 8)} {w w' : World}
theorem BdI.fr (h : BdI g o a c p m bs B w) (f : Fr (fun k => B ≤ k) w w') : BdI g o a c p m bs B w' :=
  ⟨f.cell h.cy (fun e => by have := h.gB; dsimp only at *; omega), f.cell h.cp (fun e => by have := h.gB; dsimp only at *; omega), f.cell h.cm (fun e => by have := h.gB; dsimp only at *; omega), fun k hk => by
    obtain ⟨g', o', e, hr⟩ := h.cb k hk
    exact ⟨g', o', e, f.cell hr (fun e2 => by have := (h.aB k hk g' o' e).1; dsimp only at *; omega)⟩, h.cr.fr f (fun e => by have := h.mB; omega), h.gB, h.mB, h.ne, h.m1, h.aB⟩
theorem BdI.kept (h : BdI g o a c p m bs B w) (f : Below w.heap.size w w') : BdI g o a c p m bs B w' := h.fr (Fr.of_below f (Nat.le_refl _))
theorem BdI.put (h : BdI g o a c p m bs B w) (f : Fr (fun k => k = m) w w') (hr : MemoAt w' m (leavesL bs p)) : BdI g o a c p m bs B w' :=
  ⟨f.cell h.cy h.ne, f.cell h.cp h.ne, f.cell h.cm h.ne, fun k hk => by
    obtain ⟨g', o', e, hc⟩ := h.cb k hk
    exact ⟨g', o', e, f.cell hc (h.aB k hk g' o' e).2⟩, hr, h.gB, h.mB, h.ne, h.m1, h.aB⟩
end
end Go.Proofs.YtaklbofbhanjgaaDoor
namespace Go.Proofs.YtaklbofbhanjgaaDoor
open Go.RowKit Go.Maps
set_option maxRecDepth 100000
theorem exec_look {o : Oper} {ev : Operand → Value} {w : World} {t : TypeId} {x y : Operand} {u k v : Value} {ok : Bool} (hs : (Instr.lookup t u k ok).run Tryd.prog w = .ok v w) (ho : o.op = .lookup t x y ok) (hx : ev x = u) (hy : ev y = k) : (execOp ev o).run Tryd.prog w = .ok (.value v) w := by
  simp [execOp, ho, hx, hy, hs]
set_option maxHeartbeats 2000000 in
theorem over_hit {g o c p m B lo hi : Nat} {a : Option Addr} {bs : List (BitVec 8)} {w : World} (h : BdI g o a c p m bs B w) (hlh : lo < hi) (hh : hi ≤ 16777216) {A : List (BitVec 8)} (hA : A.length = 32)
    (hl : ∀ w' : World, w'.heap[m]? = w.heap[m]? → (Instr.lookup 61 (.map (some m)) (kv lo hi) true).run Tryd.prog w' = .ok (.tuple #[.agg (bcells A).toArray, .bool true]) w') :
    Calls Tryd.prog 53 #[.pointer (some ⟨g, o, none⟩), .int .i64 (lo : Int), .int .i64 (hi : Int)] w fun e w' => e = .returned (.agg (bcells A).toArray) ∧ Below w.heap.size w w' := by
  have H := hid h
  have I73 := hid i44
  have q1 : (lo : Int) < hi := by omega
  have q2 : (hi : Int) ≤ 16777216 := by omega
  have HL := hid hl
  have HA := hid hA
  clear h hlh hh hl hA
  go_enter Tryd.func53, Tryd.ntmps53
  go_upto_region 1 with (fail)
  refine wp_world fun wa HW => ?_
  have HRr : Hid (Row wa w.heap.size (bcells z32) 25) := by show Row _ _ _ _; rw [HW.out]; exact Row.new' _ _ _ _ _ rfl rfl
  have HBa : Hid (Below w.heap.size w wa) := by show Below _ _ _; rw [HW.out]; exact (Below.refl _ _).alloc (Nat.le_refl _) _
  clear HW
  go_upto_region 4 with (fail)
  refine wp_world fun wb HW => ?_
  have hb1 : Below wa.heap.size wa wb := by rw [HW.out]; exact below_new _ _
  obtain ⟨b0, e0⟩ : ∃ b, w.heap.size = b := ⟨_, rfl⟩
  obtain ⟨b1, e1⟩ : ∃ b, wa.heap.size = b := ⟨_, rfl⟩
  rw [e0, e1]
  have HK : Hid (Row wb.drew b1 [.int .u64 (lo : Int), .int .u64 (hi : Int)] 92) := by
    have : Row wb b1 [.int .u64 (lo : Int), .int .u64 (hi : Int)] 92 := by { rw [HW.out, ← e1]; exact Row.new _ _ _ }
    exact ⟨this.at_⟩
  have HR6 : Hid (Row wb.drew b0 (bcells z32) 25) := by
    have := HRr.out.kept hb1 HRr.out.lt
    rw [e0] at this
    exact ⟨this.at_⟩
  have bd : Below wb.heap.size wb wb.drew := ⟨rfl, rfl, rfl, Nat.le_refl _, fun _ _ => rfl⟩
  have HBd : Hid (Below w.heap.size w wb.drew) := hid ((HBa.out.trans (hb1.mono HBa.out.size)).trans (bd.mono (Nat.le_trans HBa.out.size hb1.size)))
  have HMm : Hid (wb.drew.heap[m]? = w.heap[m]?) := hid (HBd.out.block m H.out.cr.lt)
  have HCM : Hid (wb.drew.cell? ⟨g, o + 2, none⟩ = some (.map (some m))) := hid (cell_kept HBd.out H.out.cm)
  have HE := hid (And.intro e0 e1)
  clear HW hb1 bd e0 e1 HRr
  have S10 : Hid (((wb.drew.alloc (.cells (bcells z32).toArray 25)).setRow wb.drew.heap.size (bcells A).toArray).cell? ⟨g, o + 2, none⟩ = some (.map (some m)) ∧ Row ((wb.drew.alloc (.cells (bcells z32).toArray 25)).setRow wb.drew.heap.size (bcells A).toArray) b1 [.int .u64 (lo : Int), .int .u64 (hi : Int)] 92 ∧ ((wb.drew.alloc (.cells (bcells z32).toArray 25)).setRow wb.drew.heap.size (bcells A).toArray).heap[m]? = w.heap[m]?) := by
    have hb : Below wb.drew.heap.size wb.drew ((wb.drew.alloc (.cells (bcells z32).toArray 25)).setRow wb.drew.heap.size (bcells A).toArray) := Go.below_setRow (below_new _ _) (Nat.le_refl _) _
    exact ⟨cell_kept hb HCM.out, HK.out.kept hb HK.out.lt, (hb.block m (Nat.lt_of_lt_of_le H.out.cr.lt HBd.out.size)).trans HMm.out⟩
  refine wp_region_last (S := fun w' => w'.cell? ⟨g, o + 2, none⟩ = some (.map (some m)) ∧ Row w' b1 [.int .u64 (lo : Int), .int .u64 (hi : Int)] 92 ∧ w'.heap[m]? = w.heap[m]?) (N := 11) (by kernel_rfl) (by kernel_rfl) fun hNW => ?_
  have hHeld := (show (fun w' => w'.cell? ⟨g, o + 2, none⟩ = some (.map (some m)) ∧ Row w' b1 [.int .u64 (lo : Int), .int .u64 (hi : Int)] 92 ∧ w'.heap[m]? = w.heap[m]?) wb.drew from ⟨HCM.out, HK.out, HMm.out⟩)
  refine wpAnyF_take (i := 0) (oi := { dst := some 21, op := Go.Op.move (Go.Operand.tmp 0), type := 124, pos := "body.go:36", after := #[], guard := none }) (v := ?v701_0) hNW (by decide) rfl (by kernel_rfl) (by kernel_rfl) (by kernel_rfl) (by kernel_rfl) (fun _ _ _ h => h) (Or.inl ⟨by kernel_rfl, ?h701_0⟩) (by assumption) ?r701_0
  case h701_0 => (intro wt hSw; (try dsimp only at hSw); go_simp; try with_reducible rfl)
  simp only [Act.put, List.setIfInBounds_toArray, List.set_cons_zero, List.set_cons_succ]
  refine wpAnyF_take (i := 1) (oi := { dst := some 22, op := Go.Op.nilCheck (Go.Operand.tmp 21), type := 0, pos := "body.go:36", after := #[{ on := 0, ground := Go.Ground.data }], guard := none }) (v := ?v701_1) hNW (by decide) rfl (by kernel_rfl) (by kernel_rfl) (by kernel_rfl) (by kernel_rfl) (fun _ _ _ h => h) (Or.inl ⟨by kernel_rfl, ?h701_1⟩) (by assumption) ?r701_1
  case h701_1 => (intro wt hSw; (try dsimp only at hSw); go_simp; try with_reducible rfl)
  simp only [Act.put, List.setIfInBounds_toArray, List.set_cons_zero, List.set_cons_succ]
  refine wpAnyF_take (i := 2) (oi := { dst := some 23, op := Go.Op.fieldAddr 63 (Go.Operand.tmp 22) 2, type := 0, pos := "body.go:36", after := #[{ on := 1, ground := Go.Ground.data }], guard := none }) (v := ?v701_2) hNW (by decide) rfl (by kernel_rfl) (by kernel_rfl) (by kernel_rfl) (by kernel_rfl) (fun _ _ _ h => h) (Or.inl ⟨by kernel_rfl, ?h701_2⟩) (by assumption) ?r701_2
  case h701_2 => (intro wt hSw; (try dsimp only at hSw); go_simp; try with_reducible rfl)
  simp only [Act.put, List.setIfInBounds_toArray, List.set_cons_zero, List.set_cons_succ]
  refine wpAnyF_take (i := 3) (oi := { dst := some 24, op := Go.Op.load 61 (Go.Operand.tmp 23), type := 61, pos := "body.go:36", after := #[{ on := 2, ground := Go.Ground.data }], guard := none }) (v := .map (some m)) hNW (by decide) rfl (by kernel_rfl) (by kernel_rfl) (by kernel_rfl) (by kernel_rfl) (fun _ _ _ h => h) (Or.inl ⟨by kernel_rfl, ?h701_3⟩) (by assumption) ?r701_3
  case h701_3 => (intro wt hSw; (try dsimp only at hSw); go_simp; try with_reducible rfl)
  simp only [Act.put, List.setIfInBounds_toArray, List.set_cons_zero, List.set_cons_succ]
  refine wpAnyF_take (i := 4) (oi := { dst := some 25, op := Go.Op.load 92 (Go.Operand.tmp 7), type := 92, pos := "body.go:36", after := #[], guard := none }) (v := .agg #[.int .u64 (lo : Int), .int .u64 (hi : Int)]) hNW (by decide) rfl (by kernel_rfl) (by kernel_rfl) (by kernel_rfl) (by kernel_rfl) (fun _ _ _ h => h) (Or.inl ⟨by kernel_rfl, ?h701_4⟩) (by assumption) ?r701_4
  case h701_4 => (intro wt hSw; exact exec_load (hSw.2.1.load 92 _ Tryd.underlying92 rfl (by kernel_rfl)) rfl rfl)
  simp only [Act.put, List.setIfInBounds_toArray, List.set_cons_zero, List.set_cons_succ]
  refine wpAnyF_take (i := 5) (oi := { dst := some 26, op := Go.Op.lookup 61 (Go.Operand.tmp 24) (Go.Operand.tmp 25) true, type := 81, pos := "body.go:36", after := #[{ on := 3, ground := Go.Ground.data }, { on := 4, ground := Go.Ground.data }], guard := none }) (v := .tuple #[.agg (bcells A).toArray, .bool true]) hNW (by decide) rfl (by kernel_rfl) (by kernel_rfl) (by kernel_rfl) (by kernel_rfl) (fun _ _ _ h => h) (Or.inl ⟨by kernel_rfl, ?h701_5⟩) (by assumption) ?r701_5
  case h701_5 => (intro wt hSw; exact exec_look (HL.out wt hSw.2.2) rfl rfl rfl)
  simp only [Act.put, List.setIfInBounds_toArray, List.set_cons_zero, List.set_cons_succ]
  refine wpAnyF_take (i := 6) (oi := { dst := some 20, op := Go.Op.move (Go.Operand.tmp 26), type := 81, pos := "body.go:36", after := #[{ on := 5, ground := Go.Ground.data }], guard := none }) (v := .tuple #[.agg (bcells A).toArray, .bool true]) hNW (by decide) rfl (by kernel_rfl) (by kernel_rfl) (by kernel_rfl) (by kernel_rfl) (fun _ _ _ h => h) (Or.inl ⟨by kernel_rfl, ?h701_6⟩) (by assumption) ?r701_6
  case h701_6 => (intro wt hSw; (try dsimp only at hSw); go_simp; try with_reducible rfl)
  simp only [Act.put, List.setIfInBounds_toArray, List.set_cons_zero, List.set_cons_succ]
  refine wpAnyF_take (i := 7) (oi := { dst := some 27, op := Go.Op.extract (Go.Operand.tmp 20) 0, type := 25, pos := "body.go:36", after := #[{ on := 6, ground := Go.Ground.data }], guard := none }) (v := .agg (bcells A).toArray) hNW (by decide) rfl (by kernel_rfl) (by kernel_rfl) (by kernel_rfl) (by kernel_rfl) (fun _ _ _ h => h) (Or.inl ⟨by kernel_rfl, ?h701_7⟩) (by assumption) ?r701_7
  case h701_7 => (intro wt hSw; (try dsimp only at hSw); go_simp; try with_reducible rfl)
  simp only [Act.put, List.setIfInBounds_toArray, List.set_cons_zero, List.set_cons_succ]
  refine wpAnyF_take (i := 8) (oi := { dst := some 28, op := Go.Op.extract (Go.Operand.tmp 20) 1, type := 4, pos := "body.go:36", after := #[{ on := 6, ground := Go.Ground.data }, { on := 10, ground := Go.Ground.gcOnly Go.Departure.lateStores }], guard := none }) (v := .bool true) hNW (by decide) rfl (by kernel_rfl) (by kernel_rfl) (by kernel_rfl) (by kernel_rfl) (fun _ _ _ h => h) (Or.inl ⟨by kernel_rfl, ?h701_8⟩) (by assumption) ?r701_8
  case h701_8 => (intro wt hSw; (try dsimp only at hSw); go_simp; try with_reducible rfl)
  simp only [Act.put, List.setIfInBounds_toArray, List.set_cons_zero, List.set_cons_succ]
  refine wpAnyF_one (i := 9) (o := { dst := some 8, op := Go.Op.alloc 25, type := 0, pos := "body.go:36", after := #[], guard := none }) rfl rfl (by kernel_rfl) ?_
  refine step_val (v := .pointer (some ⟨wb.drew.heap.size, 0, none⟩)) (w' := wb.drew.alloc (.cells (bcells z32).toArray 25)) (by first | kernel_rfl | go_simp) ?_
  have s9 : (fun w' => w'.cell? ⟨g, o + 2, none⟩ = some (.map (some m)) ∧ Row w' b1 [.int .u64 (lo : Int), .int .u64 (hi : Int)] 92 ∧ w'.heap[m]? = w.heap[m]?) (wb.drew.alloc (.cells (bcells z32).toArray 25)) := ⟨cell_kept (below_new _ _) HCM.out, HK.out.alloc _, ((below_new wb.drew (.cells (bcells z32).toArray 25)).block m (Nat.lt_of_lt_of_le H.out.cr.lt HBd.out.size)).trans HMm.out⟩
  refine ⟨fun _ => s9, ?_⟩
  simp only [Act.put, List.setIfInBounds_toArray, List.set_cons_zero, List.set_cons_succ]
  refine wpAnyF_one (i := 10) (o := { dst := none, op := Go.Op.store 25 (Go.Operand.tmp 8) (Go.Operand.tmp 27), type := 0, pos := "body.go:36", after := #[{ on := 9, ground := Go.Ground.data }, { on := 7, ground := Go.Ground.data }, { on := 0, ground := Go.Ground.phase }, { on := 1, ground := Go.Ground.phase }, { on := 2, ground := Go.Ground.phase }, { on := 3, ground := Go.Ground.phase }, { on := 4, ground := Go.Ground.phase }, { on := 5, ground := Go.Ground.phase }, { on := 6, ground := Go.Ground.phase }, { on := 7, ground := Go.Ground.phase }, { on := 8, ground := Go.Ground.textOnly Go.Departure.lateStores }, { on := 9, ground := Go.Ground.phase }], guard := none }) rfl rfl (by kernel_rfl) ?_
  refine step_storeA (g := wb.drew.heap.size) (c := bcells z32) (c' := bcells A) (Row.new _ _ _) rfl rfl rfl (by rw [bcells_len, bcells_len, HA.out]; rfl) (bcells_one _) (by rw [bcells_len, HA.out]; exact I73.out) ?_
  refine ⟨fun _ => S10.out, ?_⟩
  simp only [Act.put]
  refine wpAnyF_one (i := 11) (o := { dst := some 9, op := Go.Op.assign (Go.Operand.tmp 28), type := 4, pos := "body.go:36", after := #[{ on := 8, ground := Go.Ground.data }, { on := 10, ground := Go.Ground.chain }, { on := 0, ground := Go.Ground.phase }, { on := 1, ground := Go.Ground.phase }, { on := 2, ground := Go.Ground.phase }, { on := 3, ground := Go.Ground.phase }, { on := 4, ground := Go.Ground.phase }, { on := 5, ground := Go.Ground.phase }, { on := 6, ground := Go.Ground.phase }, { on := 7, ground := Go.Ground.phase }, { on := 8, ground := Go.Ground.phase }, { on := 9, ground := Go.Ground.phase }, { on := 10, ground := Go.Ground.phase }], guard := none }) rfl rfl (by kernel_rfl) ?_
  refine step_val (v := .bool true) (w' := ((wb.drew.alloc (.cells (bcells z32).toArray 25)).setRow wb.drew.heap.size (bcells A).toArray)) (by first | kernel_rfl | go_simp) ?_
  refine ⟨fun h => absurd rfl h, ?_⟩
  simp only [Act.put, List.setIfInBounds_toArray, List.set_cons_zero, List.set_cons_succ]
  refine wpAnyF_done (by kernel_rfl) ?_ _
  obtain ⟨wc, ec⟩ : ∃ x, (wb.drew.alloc (.cells (bcells z32).toArray 25)).setRow wb.drew.heap.size (bcells A).toArray = x := ⟨_, rfl⟩
  have hb : Below wb.drew.heap.size wb.drew wc := by rw [← ec]; exact Go.below_setRow (below_new _ _) (Nat.le_refl _) _
  have HR8 : Hid (Row wc wb.drew.heap.size (bcells A) 25) := by show Row _ _ _ _; rw [← ec]; exact (Row.new _ _ _).row _
  have HR6c := hid (HR6.out.kept hb HR6.out.lt)
  have HBc := hid (HBd.out.trans (hb.mono HBd.out.size))
  rw [ec]
  generalize wb.drew.heap.size = b2 at *
  clear hNW hHeld s9 S10 ec hb
  go_wp2_with (first
    | (show wpList _ _ _ (Oper.mk (some 30) (.load 25 (.tmp 8)) _ _ _ _ :: _) _ _; refine HR8.out.wpLoad 25 (.tmp 8) rfl rfl rfl _ Tryd.underlying25 rfl (by rw [bcells_len, HA.out]; exact I73.out) ?_)
    | (show wpList _ _ _ (Oper.mk none (.store 25 (.tmp 6) (.tmp 30)) _ _ _ _ :: _) _ _; refine HR6c.out.wpStore' 25 (.tmp 6) (.tmp 30) (bcells A) rfl rfl rfl rfl (by rw [bcells_len, bcells_len, HA.out]; rfl) (bcells_one _) (by rw [bcells_len, HA.out]; exact I73.out) ?_; intro wz HZ))
  have R : Row wz b0 (bcells A) 25 := by rw [HZ.out]; exact HR6c.out.row _
  have hB : Below w.heap.size w wz := by rw [HZ.out]; exact Go.below_setRow HBc.out (by rw [HE.out.1]; exact Nat.le_refl _) _
  exact bodyPost_ret (v := .agg (bcells A).toArray) (R.result Tryd.results53 _ rfl _ Tryd.underlying25 rfl (by rw [bcells_len, HA.out]; exact I73.out)) rfl ⟨rfl, hB⟩
end Go.Proofs.YtaklbofbhanjgaaDoor
