import Derived.Test.YtaklbofbhanjgaaDoorSt1
namespace Go.Proofs.YtaklbofbhanjgaaDoor
open Go.RowKit
set_option maxRecDepth 100000
theorem own_other {w w' : World} {p : Nat} {v : Value} {n : Nat} {xs : List Value} (h : w.ownsRow 0 92 2 v n xs) (hne : v.ownBlock ≠ some p) (hb : ∀ k, k ≠ p → w'.heap[k]? = w.heap[k]?) : w'.ownsRow 0 92 2 v n xs := by
  refine ⟨h.1, ?_⟩
  obtain e | ⟨g, cap, cur, hv, h1, hg, h2⟩ := h.2
  · exact .inl e
  · refine .inr ⟨g, cap, cur, hv, h1, ?_, h2⟩
    rw [hb g (fun e => hne (by rw [hv, e]; rfl))]
    exact hg
theorem BvAt.setR {w : World} {p : Nat} {v : Value} {R : List Value} {L : List Rg} (S : BvAt w p v R L) (j : Nat) (x : Value) : BvAt (w.setCell ⟨p, j + 1, none⟩ x) p v (R.set j x) L := by
  have R1 : Row w p (v :: R) 65 := ⟨S.hp⟩
  exact ⟨(R1.set (j + 1) x).at_, own_other S.own S.apart fun k hk => Below.heap_setCell w _ _ k hk⟩
theorem BvAt.setO {w : World} {p g : Nat} {v : Value} {R : List Value} {L : List Rg} (S : BvAt w p v R L) (c : Array Value) (h1 : g ≠ p) (h2 : v.ownBlock ≠ some g) : BvAt (w.setRow g c) p v R L :=
  ⟨(setRow_other w g p c (fun e => h1 e.symm)).trans S.hp, own_other S.own h2 fun k hk => setRow_other w g k c hk⟩
theorem BvAt.ownLt {w : World} {p : Nat} {v : Value} {R : List Value} {L : List Rg} (S : BvAt w p v R L) {g : Nat} (h : v.ownBlock = some g) : g < w.heap.size := by
  obtain e | ⟨g', cap, cur, hv, h1, hg, h2⟩ := S.own.2
  · rw [e.1] at h; cases h
  · rw [hv] at h
    cases h
    exact (Array.getElem?_eq_some_iff.1 hg).1
/-- What a copy into zeros leaves. -/
def layZ (N at_ : Nat) (d : List (BitVec 8)) : List (BitVec 8) := (List.replicate N 0#8).take at_ ++ d ++ (List.replicate N 0#8).drop (at_ + d.length)
theorem layZ_len {N at_ : Nat} {d : List (BitVec 8)} (h : at_ + d.length ≤ N) : (layZ N at_ d).length = N := by simp [layZ]; omega
end Go.Proofs.YtaklbofbhanjgaaDoor
namespace Go.Proofs.YtaklbofbhanjgaaDoor
open Go.RowKit
set_option maxRecDepth 100000
/-- Behind the making of the bytes. -/
structure KMid (w wc : World) (p mm N g : Nat) (v : Value) (m : Mf) (L : List Rg) (ad : Addr) (d : List (BitVec 8)) : Prop where
  s : StAt wc p v m [.slice (some ⟨g, 0, none⟩) N N, .int .i64 m.pc, .map (some mm)] L
  r : Row wc g (bcells (List.replicate N 0#8)) 5
  b : BytesAt wc (some ad) d
  gw : w.heap.size ≤ g
  gp : g ≠ p
  go : v.ownBlock ≠ some g
  t : Turned w wc p v v
theorem keep_mid {w wa wb wc : World} {p mm N g : Nat} {v : Value} {m : Mf} {L : List Rg} {ad : Addr} {d : List (BitVec 8)} (h : StAt w p v m [.slice none 0 0, .int .i64 m.pc, .map (some mm)] L) (hb : Below w.heap.size w wa) (hg : wa.heap.size = g) (hw : wb = wa.alloc (.cells (bcells (List.replicate N 0#8)).toArray 5)) (hc : wb.setCell ⟨p, 36, none⟩ (.slice (some ⟨g, 0, none⟩) N N) = wc) (had : ad.block ≠ p) (hd : BytesAt w (some ad) d) : KMid w wc p mm N g v m L ad d := by
  have ha := h.kept hb
  have hn := below_new wa (.cells (bcells (List.replicate N 0#8)).toArray 5)
  have h2 := ha.kept hn
  rw [← hw] at h2
  have hpw := h.row.lt
  have hgw : w.heap.size ≤ g := by rw [← hg]; exact hb.size
  have hl : (m.cells ++ ([.slice none 0 0, .int .i64 m.pc, .map (some mm)] : List Value)).set 35 (Value.slice (some ⟨g, 0, none⟩) N N) = m.cells ++ ([.slice (some ⟨g, 0, none⟩) N N, .int .i64 m.pc, .map (some mm)] : List Value) := by
    rw [List.set_append_right _ _ (by rw [Mf.cells_len h.rt]; exact Nat.le_refl _), Mf.cells_len h.rt]
    rfl
  have h3 := h2.bv.setR 35 (.slice (some ⟨g, 0, none⟩) N N)
  rw [hl, hc] at h3
  have hrow : Row wb g (bcells (List.replicate N 0#8)) 5 := by rw [hw, ← hg]; exact Row.new wa _ _
  have hw2 : Below w.heap.size w wb := by rw [hw]; exact hb.trans (hn.mono hb.size)
  refine ⟨⟨h3, h.rt, h.ok⟩, ?_, fun k hk => ?_, hgw, by omega, fun e => by have := h.bv.ownLt e; omega, ?_⟩
  · rw [← hc]; exact hrow.setOther _ (by show g ≠ p; omega) _
  · obtain ⟨g', o', e', hc'⟩ := hd k hk
    refine ⟨g', o', e', ?_⟩
    cases e'
    have hc2 := cell_kept hw2 hc'
    rw [← hc]
    rw [← hc2]
    unfold World.cell?
    rw [Below.heap_setCell wb ⟨p, 36, none⟩ _ g' had]
  · rw [← hc]
    exact ⟨hw2.os, hw2.tape, hw2.output, by simpa using hw2.size, fun k hk hkp _ => (Below.heap_setCell wb ⟨p, 36, none⟩ _ k hkp).trans (hw2.block k hk), .inl rfl⟩
theorem bytes_src {w : World} {ad : Addr} {d : List (BitVec 8)} (h : BytesAt w (some ad) d) : ∀ j v, (bcells d)[j]? = some v → w.cell? (ad.add j) = some v := fun j v hv => by
  have hj := (List.getElem?_eq_some_iff.1 hv).1
  rw [bcells_len] at hj
  obtain ⟨g, o, e, hc⟩ := h j hj
  cases e
  rw [Addr.add_mid, hc]
  rw [bcells_get hj] at hv
  exact hv
/-- Behind the copy. -/
structure KEnd (w we : World) (p mm P N g i : Nat) (v : Value) (m : Mf) (L : List Rg) (d : List (BitVec 8)) : Prop where
  s : StAt we p v m [.slice (some ⟨g, 0, none⟩) N N, .int .i64 m.pc, .map (some mm)] L
  r : Row we g (bcells (layZ N (i * P) d)) 5
  gw : w.heap.size ≤ g
  gp : g ≠ p
  go : v.ownBlock ≠ some g
  t : Turned w we p v v
theorem keep_end {w wc wd we : World} {p mm P N g i : Nat} {v : Value} {m : Mf} {L : List Rg} {ad : Addr} {d : List (BitVec 8)} (h : KMid w wc p mm N g v m L ad d) (hb : Below wc.heap.size wc wd) (he : we = wd.setRow g ((bcells (List.replicate N 0#8)).take (i * P) ++ bcells d ++ (bcells (List.replicate N 0#8)).drop (i * P + (bcells d).length)).toArray) (_ : i * P + d.length ≤ 16777216) : KEnd w we p mm P N g i v m L d := by
  have hr := h.r.kept hb h.r.lt
  have hs := h.s.kept hb
  have hc : (bcells (List.replicate N 0#8)).take (i * P) ++ bcells d ++ (bcells (List.replicate N 0#8)).drop (i * P + (bcells d).length) = bcells (layZ N (i * P) d) := by
    rw [bcells_len]
    simp [layZ, bcells]
  rw [hc] at he
  have t := h.t
  refine ⟨⟨by rw [he]; exact hs.bv.setO _ h.gp h.go, h.s.rt, h.s.ok⟩, by rw [he]; exact hr.row _, h.gw, h.gp, h.go, ?_⟩
  rw [he]
  exact ⟨hb.os.trans t.os, hb.tape.trans t.tape, hb.output.trans t.output, by rw [setRow_size]; exact Nat.le_trans t.size hb.size, fun k hk h1 h2 => (setRow_other wd g k _ (by have := h.gw; omega)).trans ((hb.block k (Nat.lt_of_lt_of_le hk t.size)).trans (t.block k hk h1 h2)), .inl rfl⟩
theorem keep_fin {w we wf : World} {p mm P N g i : Nat} {v v' : Value} {m : Mf} {L L' : List Rg} {d : List (BitVec 8)} (h : KEnd w we p mm P N g i v m L d) (hv : BvAt wf p v' (m.cells ++ [.slice (some ⟨g, 0, none⟩) N N, .int .i64 m.pc, .map (some mm)]) L') (ht : Turned we wf p v v') :
    StAt wf p v' m [.slice (some ⟨g, 0, none⟩) N N, .int .i64 m.pc, .map (some mm)] L' ∧ Row wf g (bcells (layZ N (i * P) d)) 5 ∧ w.heap.size ≤ g ∧ g ≠ p ∧ v'.ownBlock ≠ some g ∧ Turned w wf p v v' := by
  have t := h.t
  refine ⟨⟨hv, h.s.rt, h.s.ok⟩, ⟨(ht.block g h.r.lt h.gp (fun e => h.go e.symm)).trans h.r.at_⟩, h.gw, h.gp, fun e => ?_, ⟨ht.os.trans t.os, ht.tape.trans t.tape, ht.output.trans t.output, Nat.le_trans t.size ht.size, fun k hk h1 h2 => (ht.block k (Nat.lt_of_lt_of_le hk t.size) h1 h2).trans (t.block k hk h1 h2), ?_⟩⟩
  · rcases ht.row with e2 | ⟨g2, e2, h2⟩
    · exact h.go (e2.symm.trans e)
    · rw [e2] at e
      cases e
      have := h.r.lt
      omega
  · rcases ht.row with e2 | ⟨g2, e2, h2⟩
    · exact .inl e2
    · exact .inr ⟨g2, e2, Nat.le_trans t.size h2⟩
set_option maxHeartbeats 4000000 in
/-- The first piece that comes. -/
theorem keep_new {w : World} {p mm i P N : Nat} {v : Value} {m : Mf} {L : List Rg} {ad : Addr} {c : Nat} {d : List (BitVec 8)} (h : StAt w p v m [.slice none 0 0, .int .i64 m.pc, .map (some mm)] L) (hP : m.pc = P) (hN : m.sz = N) (F : Fit L) (hf : (L.length + 1) * 16 ≤ 140737488355328) (hg : gapOf L (i : Int) = i) (hd : BytesAt w (some ad) d) (hi : i * P < N) (hdl : d.length = min P (N - i * P)) (hadp : ad.block ≠ p) :
    Calls Tryd.prog 64 #[.pointer (some ⟨p, 0, none⟩), .int .i64 (i : Int), .slice (some ad) d.length c] w fun e w' => e = .returned (.bool true) ∧ ∃ v' g, StAt w' p v' m [.slice (some ⟨g, 0, none⟩) N N, .int .i64 m.pc, .map (some mm)] (addL L ((i : Int), (i : Int) + 1)) ∧ Row w' g (bcells (layZ N (i * P) d)) 5 ∧ w.heap.size ≤ g ∧ g ≠ p ∧ v'.ownBlock ≠ some g ∧ Turned w w' p v v' := by
  obtain ⟨-, a1, a2, a3, a4⟩ := fitE_ok h.ok
  rw [hP] at a1 a2
  rw [hN] at a3 a4
  have hi2 : i ≤ 16777216 := by
    have := Nat.le_mul_of_pos_right i (show 0 < P by omega)
    omega
  have HH : Hid (Calls Tryd.prog 61 #[.pointer (some ⟨p, 0, none⟩), .int .u64 (i : Int)] w fun e w' => e = .returned (.bool false) ∧ Below w.heap.size w w') := by
    obtain ⟨a, cap, -, V⟩ := h.bv.view hf
    have := has_any (i : Int) V F
    rw [hg] at this
    rwa [show ((i : Int) != (i : Int)) = false by simp] at this
  have HS := hid h
  have HD := hid hd
  have HF := hid F
  have HLF := hid hf
  have HDL := hid hdl
  have HI := hid (And.intro hi hi2)
  have HPN := hid (And.intro hP hN)
  have HB := hid (And.intro a1 (And.intro a2 a4))
  have HAD := hid hadp
  have q1 : (i : Int) ≤ 16777216 := by omega
  have q2 : (N : Int) ≤ 16777216 := by omega
  clear h hP hN F hf hg hd hi hi2 hdl a1 a2 a3 a4 hadp
  have heq : ∀ w : World, (binOp .eql 22 (.slice none 0 0) (.slice none 0 0)).run Tryd.prog w = .ok (.bool true) w := fun _ => rfl
  go_enter Tryd.func64, Tryd.ntmps64
  go_upto_region 3 with (go_at_call 61; refine Calls.mono HH.out ?_; rintro e wa ⟨rfl, hba⟩; have HBa := hid hba; clear hba)
  have HSa := hid (HS.out.kept HBa.out)
  have d36 : wa.cell? ⟨p, 36, none⟩ = some (.slice none 0 0) := HSa.out.yC 0 _ rfl
  have d2 := HSa.out.szC
  rw [HPN.out.2] at d2
  go_upto_region 4 with fail
  have HN2 : Hid (N ≤ 281474976710656) := by show _ ≤ _; omega
  go_upto_region 5 with (at_make; refine wpMakeB (.tmp 24) (.tmp 24) .i64 N rfl rfl rfl rfl HN2.out ?_; intro wb HW; have c36 : wb.cell? ⟨p, 36, none⟩ = some (.slice none 0 0) := (by rw [HW.out]; exact (HSa.out.kept (below_new _ _)).yC 0 _ rfl); have f36 : wb.frozen? ⟨p, 36, none⟩ = false := (by rw [HW.out]; exact (HSa.out.kept (below_new _ _)).row.frozen 36); clear d36 d2 heq)
  clear c36 f36
  obtain ⟨g, hg⟩ : ∃ g, wa.heap.size = g := ⟨_, rfl⟩
  rw [hg]
  obtain ⟨wc, hw⟩ : ∃ wc, wb.setCell ⟨p, 36, none⟩ (.slice (some ⟨g, 0, none⟩) N N) = wc := ⟨_, rfl⟩
  rw [hw]
  have HKC := hid (keep_mid HS.out HBa.out hg HW.out hw HAD.out HD.out)
  clear hw HW hg
  have HCut : Hid (Calls Tryd.prog 62 #[.pointer (some ⟨p, 36, none⟩), .int .i64 (i : Int)] wc fun e w' => e = .returned (.slice (some ⟨g, i * P, none⟩) d.length d.length) ∧ Below wc.heap.size wc w') := by
    have d36 := HKC.out.s.yC 0 _ rfl
    have d37 := HKC.out.s.yC 1 _ rfl
    rw [HPN.out.1] at d37
    have hb := HB.out
    have h := cut_any (g := p) (o := 36) (i := i) d36 d37 (by omega) (by omega) (by omega) (Nat.le_refl _) (by omega) HI.out.1
    rw [← HDL.out] at h
    simp only [Option.map_some, Addr.add_mid, Nat.zero_add] at h
    exact h
  have HDN : Hid (i * P + d.length ≤ N) := by show _ ≤ _; have := HDL.out; have := HI.out.1; omega
  go_upto_region 6 with (first
    | (go_at_call 62; refine Calls.mono HCut.out ?_; rintro e wd ⟨rfl, hbd⟩; have HBd := hid hbd; have HRd := hid (HKC.out.r.kept hbd HKC.out.r.lt); clear hbd)
    | (show wpList _ _ _ (Oper.mk (some 35) (.call { callee := .builtin .copy, args := #[.tmp 33, .tmp 34], argTypes := #[22, 22] }) _ _ _ _ :: _) _ _; refine wpList_copyB (.tmp 33) (.tmp 34) rfl rfl HRd.out (i * P) d.length d.length rfl ad d.length c rfl (bcells d) (by rw [bcells_len]; exact (Nat.min_self _).symm) (bytes_src (HKC.out.b.kept HBd.out)) (by rw [bcells_len, bcells_len, List.length_replicate]; exact HDN.out) (bcells_one _) d.length (bcells_len _) ?_; intro we HE))
  have HKE := hid (keep_end HKC.out HBd.out HE.out (Nat.le_trans HDN.out (by have := HB.out; omega)) (i := i))
  have HAd : Hid (Calls Tryd.prog 55 #[.pointer (some ⟨p, 0, none⟩), .agg #[.int .u64 (i : Int), .int .u64 ((i : Int) + 1)]] we fun e w' => e = .returned (.int .u64 (freshOf L ((i : Int), (i : Int) + 1))) ∧ ∃ v', BvAt w' p v' (m.cells ++ [.slice (some ⟨g, 0, none⟩) N N, .int .i64 m.pc, .map (some mm)]) (addL L ((i : Int), (i : Int) + 1)) ∧ Turned we w' p v v') := bv_add_any HKE.out.s.bv HF.out HLF.out ((i : Int), (i : Int) + 1) (by show (0 : Int) ≤ _; omega) (by show (i : Int) + 1 ≤ _; omega)
  generalize freshOf L ((i : Int), (i : Int) + 1) = fr at *
  clear HE HRd HBd HCut HKC
  go_wp2_with (go_at_call 55; refine Calls.mono HAd.out ?_; rintro e wf ⟨rfl, v', hv, ht⟩; have HV := hid hv; have HT := hid ht; clear hv ht)
  go_ret
  exact ⟨rfl, v', g, keep_fin HKE.out HV.out HT.out⟩
end Go.Proofs.YtaklbofbhanjgaaDoor
namespace Go.Proofs.YtaklbofbhanjgaaDoor
open Go.RowKit
set_option maxRecDepth 100000
def setL (c : List Value) : Nat → List Value → List Value
  | _, [] => c
  | o, v :: r => setL (c.set o v) (o + 1) r
theorem Row.setCells {g : Nat} {t : TypeId} : ∀ (vs : List Value) (o : Nat) (c : List Value) (w : World), Row w g c t → Row (w.setCells g o vs) g (setL c o vs) t
  | [], _, _, _, h => h
  | v :: r, o, c, _, h => Row.setCells r (o + 1) (c.set o v) _ (h.set o v)
theorem setL_app : ∀ (vs A B : List Value), B.length = vs.length → setL (A ++ B) A.length vs = A ++ vs
  | [], A, B, h => by
    obtain rfl : B = [] := by cases B with | nil => rfl | cons _ _ => simp at h
    simp [setL]
  | v :: r, A, b :: B, h => by
    unfold setL
    rw [List.set_append_right _ _ (Nat.le_refl _), Nat.sub_self, List.set_cons_zero, show A ++ v :: B = (A ++ [v]) ++ B by simp, show A.length + 1 = (A ++ [v]).length by simp, setL_app r (A ++ [v]) B (by simpa using h)]
    simp
theorem below_setCells {B g : Nat} (hg : B ≤ g) : ∀ (vs : List Value) (o : Nat) (w w' : World), Below B w w' → Below B w (w'.setCells g o vs)
  | [], _, _, _, h => h
  | v :: r, o, w, _, h => below_setCells hg r (o + 1) w _ (Below.setCell h hg v)
theorem wpList_built {P : Program} {ops : Array Oper} {rest : List Oper} {o : Oper} {a : Act} {w : World} {Q : Exit → Act → World → Prop} {t : TypeId} {parts : Array (Nat × Operand)} {cells : Array Value} (hgd : o.guard = none) (ho : o.op = .build t parts) (hf : P.built t (parts.map fun (i, x) => (i, a.eval x)).toList = some cells)
    (k : wpList P ops Q rest (a.put o.dst (.agg cells)) w) : wpList P ops Q (o :: rest) a w := by
  refine wpList_build hgd t parts ho (by rw [hf]; rfl) ?_
  rw [hf]
  exact k
/-- The root lies in a manifest's row. -/
theorem mf_root {w : World} {g : Nat} {nm : ByteArray} {sz pc : Int} {E : List (BitVec 8)} (h : Row w g (Mf.cells ⟨nm, sz, pc, z32⟩) 39) (hE : E.length = 32) : Row (w.setCells g 3 (bcells E)) g (Mf.cells ⟨nm, sz, pc, E⟩) 39 := by
  have h2 := Row.setCells (bcells E) 3 _ w h
  have e : setL (Mf.cells ⟨nm, sz, pc, z32⟩) 3 (bcells E) = Mf.cells ⟨nm, sz, pc, E⟩ := setL_app (bcells E) [.string nm, .int .i64 sz, .int .i64 pc] (bcells z32) (by rw [bcells_len, bcells_len, hE]; rfl)
  rwa [e] at h2
theorem Row.thereMid {w : World} {g o n : Nat} {c : List Value} {t : TypeId} (h : Row w g c t) (hn : o + n ≤ c.length) : w.there g o n := fun j hj => by
  have hl : o + j < c.length := by omega
  rw [h.cell (o + j) c[o + j] (by simp [hl])]
  exact ⟨rfl, h.frozen _⟩
theorem Mf.cells_one (m : Mf) : ∀ v ∈ m.cells, v.oneCell' = true := by
  intro v hv
  simp only [Mf.cells, List.mem_cons] at hv
  rcases hv with rfl | rfl | rfl | hv
  · rfl
  · rfl
  · rfl
  · exact bcells_one _ v hv
/-- The root of a file's pieces. -/
def rootF (bs : List (BitVec 8)) (P : Nat) : List (BitVec 8) := overL (leavesL bs P) 0 (leavesL bs P).length
theorem rootF_len (bs : List (BitVec 8)) (P : Nat) : (rootF bs P).length = 32 := overL_len (leavesL_32 bs P) (Nat.zero_le _)
theorem cnt_file {nm : ByteArray} {N P : Nat} {rt : List (BitVec 8)} (hP : 1 ≤ P) (h : fitE ⟨nm, (N : Int), (P : Int), rt⟩ = 0) : cntI ⟨nm, (N : Int), (P : Int), rt⟩ = (((N + P - 1) / P : Nat) : Int) := by
  unfold cntI
  rw [if_pos h]
  dsimp only
  rw [Int.tdiv_eq_ediv_of_nonneg (by omega), show (N : Int) + P - 1 = ((N + P - 1 : Nat) : Int) by omega]
  rfl
end Go.Proofs.YtaklbofbhanjgaaDoor
