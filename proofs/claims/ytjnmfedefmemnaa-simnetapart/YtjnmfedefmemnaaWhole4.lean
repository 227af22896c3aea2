import Derived.Test.YtjnmfedefmemnaaWhole3
namespace Go.Proofs.Ytjnmfedefmemnaa
open Go.RowKit Go.Maps
set_option maxRecDepth 100000

section
variable {B : Nat} {w w' : World} {p g n K : Nat} {c : List Value} {vs : Nat → Nat → Value} {fr : Nat → Nat → List Fr} {k d : Nat}
/-- A frame is written: its parcel and its map. -/
theorem NetG.frame (h : NetG B w p g n c vs fr K) (hk : k < n) (hd : d < 2) {j : Nat} {x x' : Fr} (hx : (fr k d)[j]? = some x) (ho : Only (x.q :: mblk x.mv) w w') (hf : FrAt w' (K + 1) x') (hq : x'.q = x.q) (hm : ∀ y ∈ mblk x'.mv, y ∈ mblk x.mv ∨ w.heap.size ≤ y) :
    NetG B w' p g n c vs (upd fr k d ((fr k d).set j x')) (K + 1) ∧ Stays w w' g n vs vs fr (upd fr k d ((fr k d).set j x')) := by
  have hB : B ≤ w.heap.size := Nat.le_of_lt (Nat.lt_of_le_of_lt (h.ge g (.roads rfl)) h.row.lt)
  have hj : j < (fr k d).length := (List.getElem?_eq_some_iff.1 hx).1
  obtain ⟨gb, r1, r2, t', l1⟩ := h.frs k d hk hd x (get_mem hx)
  have hne : ∀ {y : Nat} {cc : List Value} {t : TypeId}, Row w y cc t → t ≠ 84 → y ∉ x.q :: mblk x.mv := fun r nt hm => by
    rcases List.mem_cons.1 hm with e | hm
    · exact nt ((e ▸ r).type r1)
    · exact mblk_ne t' r hm
  have atj : ∀ {i : Nat} {u : Fr}, ((fr k d).set j x')[i]? = some u → (i = j ∧ u = x') ∨ (i ≠ j ∧ (fr k d)[i]? = some u) := fun {i u} hu => by
    by_cases e : i = j
    · subst e
      rw [List.getElem?_set_self hj] at hu
      injection hu with hu
      exact .inl ⟨rfl, hu.symm⟩
    · rw [List.getElem?_set_ne (Ne.symm e)] at hu
      exact .inr ⟨e, hu⟩
  -- what a frame of the new net is
  have cl : ∀ {k1 d1 j1 : Nat} {u : Fr}, (upd fr k d ((fr k d).set j x') k1 d1)[j1]? = some u → (k1 = k ∧ d1 = d ∧ j1 = j ∧ u = x') ∨ (¬ (k1 = k ∧ d1 = d ∧ j1 = j) ∧ (fr k1 d1)[j1]? = some u) := fun {k1 d1 j1 u} hu => by
    by_cases e : k1 = k ∧ d1 = d
    · obtain ⟨rfl, rfl⟩ := e
      rw [upd_same] at hu
      rcases atj hu with ⟨e1, e2⟩ | ⟨e1, e2⟩
      · exact .inl ⟨rfl, rfl, e1, e2⟩
      · exact .inr ⟨fun ee => e1 ee.2.2, e2⟩
    · rw [upd_other _ _ _ _ e] at hu
      exact .inr ⟨fun ee => e ⟨ee.1, ee.2.1⟩, hu⟩
  have own : ∀ y, Owned g n vs (upd fr k d ((fr k d).set j x')) y → Owned g n vs fr y ∨ w.heap.size ≤ y := fun y hy => by
    cases hy with
    | roads e => exact .inl (.roads e)
    | bag k' d' hk' hd' hm => exact .inl (.bag k' d' hk' hd' hm)
    | parcel k' d' hk' hd' u hu e =>
      obtain ⟨i, hi, hui⟩ := List.mem_iff_getElem.1 hu
      rcases cl (j1 := i) (by rw [List.getElem?_eq_getElem hi, hui]) with ⟨_, _, _, e2⟩ | ⟨_, e2⟩
      · exact .inl (.parcel k d hk hd x (get_mem hx) (by rw [e, e2, hq]))
      · exact .inl (.parcel k' d' hk' hd' u (get_mem e2) e)
    | map k' d' hk' hd' u hu e =>
      obtain ⟨i, hi, hui⟩ := List.mem_iff_getElem.1 hu
      rcases cl (j1 := i) (by rw [List.getElem?_eq_getElem hi, hui]) with ⟨_, _, _, e2⟩ | ⟨_, e2⟩
      · rw [e2] at e
        rcases hm y e with h1 | h1
        · exact .inl (.map k d hk hd x (get_mem hx) h1)
        · exact .inr h1
      · exact .inl (.map k' d' hk' hd' u (get_mem e2) e)
  have low : ∀ {k' d' : Nat}, k' < n → d' < 2 → ∀ x ∈ fr k' d', ∀ y ∈ mblk x.mv, y < w.heap.size := fun hk' hd' x hx y hy => h.lt (.map _ _ hk' hd' x hx hy)
  refine ⟨
    { net := ho.row h.net (hne h.net (by decide))
      row := ho.row h.row (hne h.row (by decide))
      len := h.len, one := h.one, up := h.up
      cap := fun k' hk' => by
        obtain ⟨C, h1, h2, h3, h4⟩ := h.cap k' hk'
        refine ⟨C, h1, h2, h3, fun d' hd' => ?_⟩
        by_cases e : k' = k ∧ d' = d
        · obtain ⟨rfl, rfl⟩ := e
          rw [upd_same, List.length_set]
          exact h4 d' hd'
        · rw [upd_other _ _ _ _ e]
          exact h4 d' hd'
      cnt := h.cnt, hbag := h.hbag
      bag := fun k' d' hk' hd' => by
        have hb := (h.bag k' d' hk' hd').only ho (fun y hy => by
          obtain ⟨c', R'⟩ := (h.bag k' d' hk' hd').blkRow y hy
          exact hne R' (by decide))
        by_cases e : k' = k ∧ d' = d
        · obtain ⟨rfl, rfl⟩ := e
          rw [upd_same, List.map_set, hq]
          have es : ((fr k' d').map Fr.q).set j x.q = (fr k' d').map Fr.q := by
            apply List.ext_getElem?
            intro i
            by_cases ei : j = i
            · subst ei
              rw [List.getElem?_set_self (by rw [List.length_map]; exact hj), List.getElem?_map, hx]
              rfl
            · rw [List.getElem?_set_ne ei]
          rw [es]
          exact hb
        · rw [upd_other _ _ _ _ e]
          exact hb
      frs := fun k' d' hk' hd' u hu => by
        obtain ⟨i, hi, hui⟩ := List.mem_iff_getElem.1 hu
        rcases cl (j1 := i) (by rw [List.getElem?_eq_getElem hi, hui]) with ⟨_, _, _, e2⟩ | ⟨e1, e2⟩
        · rw [e2]; exact hf
        · have hs := h.sepq k d j k' d' i x u hk hd hk' hd' e1 hx e2
          refine ((h.frs k' d' hk' hd' u (get_mem e2)).only ho (fun hmm => ?_) (fun y hy hmm => ?_) (fun y hy cc r => hne r (by decide) hy)).up (Nat.le_succ K)
          · rcases List.mem_cons.1 hmm with e | hmm
            · exact hs.1 e.symm
            · obtain ⟨_, ru, _⟩ := h.frs k' d' hk' hd' u (get_mem e2)
              exact mblk_ne t' ru hmm
          · rcases List.mem_cons.1 hmm with e | hmm
            · obtain ⟨_, _, _, tu, _⟩ := h.frs k' d' hk' hd' u (get_mem e2)
              exact mblk_ne tu r1 (e ▸ hy)
            · exact hs.2 y hmm hy
      bp := h.bp
      ge := fun y hy => by
        rcases own y hy with h1 | h1
        · exact h.ge y h1
        · omega
      sepb := h.sepb
      sepq := fun k1 d1 j1 k2 d2 j2 u u' hk1 hd1 hk2 hd2 hne2 hu hu' => by
        rcases cl hu with ⟨rfl, rfl, rfl, e2⟩ | ⟨e1, e2⟩
        · rcases cl hu' with ⟨rfl, rfl, rfl, _⟩ | ⟨e3, e4⟩
          · exact absurd ⟨rfl, rfl, rfl⟩ hne2
          · have hs := h.sepq _ _ _ k2 d2 j2 x u' hk1 hd1 hk2 hd2 e3 hx e4
            refine ⟨by rw [e2, hq]; exact hs.1, fun y hy hy2 => ?_⟩
            rw [e2] at hy
            rcases hm y hy with h1 | h1
            · exact hs.2 y h1 hy2
            · have := low hk2 hd2 u' (get_mem e4) y hy2; omega
        · rcases cl hu' with ⟨rfl, rfl, rfl, e4⟩ | ⟨e3, e4⟩
          · have hs := h.sepq k1 d1 j1 _ _ _ u x hk1 hd1 hk2 hd2 hne2 e2 hx
            refine ⟨by rw [e4, hq]; exact hs.1, fun y hy hy2 => ?_⟩
            rw [e4] at hy2
            rcases hm y hy2 with h1 | h1
            · exact hs.2 y hy h1
            · have := low hk1 hd1 u (get_mem e2) y hy; omega
          · exact h.sepq k1 d1 j1 k2 d2 j2 u u' hk1 hd1 hk2 hd2 hne2 e2 e4 }, ⟨⟨_, ho, fun y hy => ?_⟩, own⟩⟩
  rcases List.mem_cons.1 hy with e | hy
  · exact .parcel k d hk hd x (get_mem hx) e
  · exact .map k d hk hd x (get_mem hx) hy
theorem NetG.spoil (h : NetG B w p g n c vs fr K) (hk : k < n) (hd : d < 2) {j : Nat} {x : Fr} (hx : (fr k d)[j]? = some x) {i : Nat} (hi : i < x.bs.length) (hK : K < 281474976710656) (m : BitVec 8) :
    Calls Try.prog 17 #[.pointer (some ⟨p, 0, none⟩), .int .i64 k, .int .i64 d, .int .i64 j, .int .i64 i, .int .u8 (ub m)] w fun e w' => ∃ er : Int, e = .returned (.int .i64 er) ∧ er = 0 ∧ ∃ mv',
      NetG B w' p g n c vs (upd fr k d ((fr k d).set j ⟨x.q, x.bs, turnT x.T i m, mv'⟩)) (K + 1) ∧ Stays w w' g n vs vs fr (upd fr k d ((fr k d).set j ⟨x.q, x.bs, turnT x.T i m, mv'⟩)) := by
  have hb := below_grow (below_grow (Below.refl w.heap.size w) (.cells #[.int .i64 (i : Int)] 3)) (.cells #[.int .u8 (ub m)] 5)
  obtain ⟨gb, r1, r2, t', l1⟩ := h.frs k d hk hd x (get_mem hx)
  have q1 : Row ((w.alloc (.cells #[.int .i64 (i : Int)] 3)).alloc (.cells #[.int .u8 (ub m)] 5)) w.heap.size [.int .i64 (i : Int)] 3 := (Row.new' _ _ _ _ _ rfl rfl).alloc _
  have q2 : Row ((w.alloc (.cells #[.int .i64 (i : Int)] 3)).alloc (.cells #[.int .u8 (ub m)] 5)) (w.heap.size + 1) [.int .u8 (ub m)] 5 := Row.new' _ _ _ _ _ (by simp) rfl
  refine spoil_by (find_sp (h.net.kept hb h.net.lt) (h.row.kept hb h.row.lt) hk hd (h.hbag k d hk hd) ((h.bag k d hk hd).kept hb) (j := j) (q := x.q) (by rw [List.getElem?_map, hx]; rfl) ((spoil1_ok (r1.kept hb r1.lt) (r2.kept hb r2.lt) (t'.kept hb) hi l1 hK q1 q2).mono ?_))
  rintro e w' ⟨rfl, ho, mv', s1, s2, s3, s4⟩
  have ho2 : Only (x.q :: mblk x.mv) w w' := (Only.of_below (S := x.q :: mblk x.mv) hb (Nat.le_refl _)).trans ho (fun y hy => .inl hy)
  have hf := h.frame hk hd (x' := ⟨x.q, x.bs, turnT x.T i m, mv'⟩) hx ho2 ⟨gb, s1, s2, s3, l1⟩ rfl (fun y hy => by
    rcases s4 y hy with h1 | h1
    · exact .inl h1
    · exact .inr (Nat.le_trans hb.size h1))
  exact ⟨0, rfl, rfl, mv', hf.1, hf.2⟩
end
end Go.Proofs.Ytjnmfedefmemnaa
