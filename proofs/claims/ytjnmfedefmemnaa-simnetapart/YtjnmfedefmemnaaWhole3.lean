import Derived.Test.YtjnmfedefmemnaaWhole2
namespace Go.Proofs.Ytjnmfedefmemnaa
open Go.RowKit Go.Maps
set_option maxRecDepth 100000

/-- A call wrote only what the net owned, and the net owns nothing of what was there beside. -/
structure Stays (w w' : World) (g n : Nat) (vs vs' : Nat → Nat → Value) (fr fr' : Nat → Nat → List Fr) : Prop where
  only : ∃ S, Only S w w' ∧ ∀ x ∈ S, Owned g n vs fr x
  own : ∀ x, Owned g n vs' fr' x → Owned g n vs fr x ∨ w.heap.size ≤ x
section
variable {B : Nat} {w w' : World} {p g n K : Nat} {c c' : List Value} {vs : Nat → Nat → Value} {fr : Nat → Nat → List Fr} {k d : Nat} {v' : Value} {l' : List Fr}
theorem NetG.stays (h : NetG B w p g n c vs fr K) (hk : k < n) (hd : d < 2) (t : BagTurn w w' g k d (vs k d) v' c c' (fr k d) l' K) : Stays w w' g n vs (upd vs k d v') fr (upd fr k d l') :=
  ⟨⟨_, t.only, fun x hx => by
    rcases List.mem_cons.1 hx with e | hx
    · exact .roads e
    · exact .bag k d hk hd hx⟩, fun _ hx => h.owned_turn hk hd t hx⟩
theorem NetG.room16 (h : NetG B w p g n c vs fr K) (hk : k < n) : k * 16 + 16 ≤ c.length := by rw [h.len]; omega
theorem NetG.len30 (h : NetG B w p g n c vs fr K) (hk : k < n) (hd : d < 2) : ((fr k d).map Fr.q).length ≤ 1073741824 := by
  obtain ⟨C, _, _, h3, h4⟩ := h.cap k hk
  have := h4 d hd
  rw [List.length_map]
  omega
theorem NetG.put (h : NetG B w p g n c vs fr K) (hk : k < n) (hd : d < 2) (hup : c[k * 16]? = some (.bool true)) {C P : Int} (hC : c[k * 16 + 1]? = some (.int .i64 C)) (hP : c[k * 16 + 4 + d]? = some (.int .u64 P)) (hlt : ((fr k d).length : Int) < C) {a : Option Addr} {m cap : Nat} {bs : List (BitVec 8)} (hF : BytesAt w a bs) (hm : bs.length = m) (hm2 : m ≤ 140737488351232) :
    Calls Try.prog 10 #[.pointer (some ⟨p, 0, none⟩), .int .i64 k, .int .i64 d, .slice a m cap] w fun e w' => e = .returned (.tuple #[.bool true, .int .i64 0]) ∧ ∃ v' q,
      NetG B w' p g n ((c.set (k * 16 + 4 + d) (.int .u64 (IntKind.u64.wrap (P + 1)))).set (k * 16 + 14 + d) v') (upd vs k d v') (upd fr k d (fr k d ++ [⟨q, bs, fun _ => 0, .map none⟩])) K ∧ Stays w w' g n vs (upd vs k d v') fr (upd fr k d (fr k d ++ [⟨q, bs, fun _ => 0, .map none⟩])) := by
  obtain ⟨C', hC', _, h30, _⟩ := h.cap k hk
  have eC : C' = C := by rw [hC] at hC'; injection hC' with e; injection e with _ e; exact e.symm
  subst eC
  have hl := h.room16 hk
  refine (put_ex h.net h.row hk hd hup hC hP (h.hbag k d hk hd) (h.bag k d hk hd) (by rw [List.length_map]; exact hlt) h30 hF hm (by omega)).mono ?_
  rintro e w' ⟨rfl, v', q, hr, hbag, hq, ⟨gb, p1, p2⟩, ho, hx⟩
  have t : BagTurn w w' g k d (vs k d) v' c ((c.set (k * 16 + 4 + d) (.int .u64 (IntKind.u64.wrap (P + 1)))).set (k * 16 + 14 + d) v') (fr k d) (fr k d ++ [⟨q, bs, fun _ => 0, .map none⟩]) K :=
    { only := ho, row := hr
      same := fun i hi => cell2 (by omega) (by omega)
      cnt := cnt_set1 (fun i h4 h14 => h.cnt k i hk h4 h14) (by omega) hl
      here := cell_set2 (by omega)
      there := fun d' hd' hne => cell2 (by omega) (by omega)
      len := by simp
      one := one_set (one_set h.one _ rfl) _ (blk_one hbag)
      bag := by rw [List.map_append]; exact hbag
      blks := hx
      frs := fun x hx => by
        rcases List.mem_append.1 hx with h1 | h1
        · exact .inl h1
        · have e : x = ⟨q, bs, fun _ => 0, .map none⟩ := by simpa using h1
          subst e
          exact .inr ⟨⟨gb, p1, p2, .inl ⟨rfl, fun _ _ => rfl⟩, by simp only; omega⟩, hq, fun y hy => by cases hy⟩
      sep := fun j j' x x' => h.sepSnoc hk hd hq (fun y hy => by cases hy) j j' x x'
      room := fun C2 hC2 => by
        rw [hC] at hC2
        injection hC2 with e
        injection e with _ e
        subst e
        rw [List.length_append]
        simp
        omega }
  exact ⟨rfl, v', q, h.turn hk hd t, h.stays hk hd t⟩
theorem NetG.take (h : NetG B w p g n c vs fr K) (hk : k < n) (hd : d < 2) (hup : c[k * 16]? = some (.bool true)) {CT : Int} (hT : c[k * 16 + 8 + d]? = some (.int .u64 CT)) {j : Nat} {x : Fr} (hx : (fr k d)[j]? = some x) :
    Calls Try.prog 13 #[.pointer (some ⟨p, 0, none⟩), .int .i64 k, .int .i64 d, .int .i64 j] w fun e w' => ∃ g', e = .returned (.tuple #[.agg #[.slice (some ⟨g', 0, none⟩) x.bs.length x.bs.length, .bool (sp x.T x.bs.length)], .int .i64 0]) ∧ w.heap.size ≤ g' ∧ Row w' g' (bcells (xorT x.bs x.T)) 5 ∧ ∃ v',
      NetG B w' p g n ((c.set (k * 16 + 14 + d) v').set (k * 16 + 8 + d) (.int .u64 (IntKind.u64.wrap (CT + 1)))) (upd vs k d v') (upd fr k d ((fr k d).eraseIdx j)) K ∧ Stays w w' g n vs (upd vs k d v') fr (upd fr k d ((fr k d).eraseIdx j)) := by
  have hl := h.room16 hk
  have hj : j < (fr k d).length := (List.getElem?_eq_some_iff.1 hx).1
  obtain ⟨gb, r1, r2, t', l1⟩ := h.frs k d hk hd x (get_mem hx)
  have hq : ((fr k d).map Fr.q)[j]'(by rw [List.length_map]; exact hj) = x.q := by
    rw [List.getElem_map, (List.getElem?_eq_some_iff.1 hx).2]
  refine (take_ex h.net h.row hk hd hup (h.hbag k d hk hd) hT (h.bag k d hk hd) (h.len30 hk hd) (by rw [List.length_map]; exact hj) (bs := x.bs) (K := K) (T := x.T) (by rw [hq]; exact ⟨gb, x.mv, r1, r2, t'⟩) l1).mono ?_
  rintro e w' ⟨g', rfl, hg, hrb, ho, v', hr, hbag, hv⟩
  have t : BagTurn w w' g k d (vs k d) v' c ((c.set (k * 16 + 14 + d) v').set (k * 16 + 8 + d) (.int .u64 (IntKind.u64.wrap (CT + 1)))) (fr k d) ((fr k d).eraseIdx j) K :=
    { only := ho, row := hr
      same := fun i hi => cell2 (by omega) (by omega)
      cnt := cnt_set2 (fun i h4 h14 => h.cnt k i hk h4 h14) (by omega) hl
      here := cell_set1 (by omega) (by omega)
      there := fun d' hd' hne => cell2 (by omega) (by omega)
      len := by simp
      one := one_set (one_set h.one _ (blk_one hbag)) _ rfl
      bag := by rw [← erase_map]; exact hbag
      blks := fun y hy => .inl (hv ▸ hy)
      frs := fun y hy => .inl (List.mem_of_mem_eraseIdx hy)
      sep := fun j1 j2 x1 x2 => h.sepErase hk hd j j1 j2 x1 x2
      room := fun C hC => by
        obtain ⟨C2, hC2, _, _, h4⟩ := h.cap k hk
        rw [hC] at hC2
        injection hC2 with e
        injection e with _ e
        subst e
        have := h4 d hd
        rw [List.length_eraseIdx, if_pos hj]
        omega }
  exact ⟨g', rfl, hg, hrb, v', h.turn hk hd t, h.stays hk hd t⟩
theorem NetG.drop (h : NetG B w p g n c vs fr K) (hk : k < n) (hd : d < 2) {CT : Int} (hT : c[k * 16 + 10 + d]? = some (.int .u64 CT)) {j : Nat} (hj : j < (fr k d).length) :
    Calls Try.prog 20 #[.pointer (some ⟨p, 0, none⟩), .int .i64 k, .int .i64 d, .int .i64 j] w fun e w' => e = .returned (.int .i64 0) ∧ ∃ v',
      NetG B w' p g n ((c.set (k * 16 + 14 + d) v').set (k * 16 + 10 + d) (.int .u64 (IntKind.u64.wrap (CT + 1)))) (upd vs k d v') (upd fr k d ((fr k d).eraseIdx j)) K ∧ Stays w w' g n vs (upd vs k d v') fr (upd fr k d ((fr k d).eraseIdx j)) := by
  have hl := h.room16 hk
  refine (drop_in h.net h.row hk hd (h.hbag k d hk hd) hT (h.bag k d hk hd) (h.len30 hk hd) (by rw [List.length_map]; exact hj)).mono ?_
  rintro e w' ⟨rfl, ho, v', hr, hbag, hv⟩
  have t : BagTurn w w' g k d (vs k d) v' c ((c.set (k * 16 + 14 + d) v').set (k * 16 + 10 + d) (.int .u64 (IntKind.u64.wrap (CT + 1)))) (fr k d) ((fr k d).eraseIdx j) K :=
    { only := ho, row := hr
      same := fun i hi => cell2 (by omega) (by omega)
      cnt := cnt_set2 (fun i h4 h14 => h.cnt k i hk h4 h14) (by omega) hl
      here := cell_set1 (by omega) (by omega)
      there := fun d' hd' hne => cell2 (by omega) (by omega)
      len := by simp
      one := one_set (one_set h.one _ (blk_one hbag)) _ rfl
      bag := by rw [← erase_map]; exact hbag
      blks := fun y hy => .inl (hv ▸ hy)
      frs := fun y hy => .inl (List.mem_of_mem_eraseIdx hy)
      sep := fun j1 j2 x1 x2 => h.sepErase hk hd j j1 j2 x1 x2
      room := fun C hC => by
        obtain ⟨C2, hC2, _, _, h4⟩ := h.cap k hk
        rw [hC] at hC2
        injection hC2 with e
        injection e with _ e
        subst e
        have := h4 d hd
        rw [List.length_eraseIdx, if_pos hj]
        omega }
  exact ⟨rfl, v', h.turn hk hd t, h.stays hk hd t⟩
theorem NetG.double (h : NetG B w p g n c vs fr K) (hk : k < n) (hd : d < 2) (hup : c[k * 16]? = some (.bool true)) {C CT : Int} (hC : c[k * 16 + 1]? = some (.int .i64 C)) (hT : c[k * 16 + 12 + d]? = some (.int .u64 CT)) (hlt : ((fr k d).length : Int) < C) {j : Nat} {x : Fr} (hx : (fr k d)[j]? = some x) :
    Calls Try.prog 11 #[.pointer (some ⟨p, 0, none⟩), .int .i64 k, .int .i64 d, .int .i64 j] w fun e w' => e = .returned (.tuple #[.bool true, .int .i64 0]) ∧ ∃ v' q mv,
      NetG B w' p g n ((c.set (k * 16 + 14 + d) v').set (k * 16 + 12 + d) (.int .u64 (IntKind.u64.wrap (CT + 1)))) (upd vs k d v') (upd fr k d (fr k d ++ [⟨q, x.bs, x.T, mv⟩])) K ∧ Stays w w' g n vs (upd vs k d v') fr (upd fr k d (fr k d ++ [⟨q, x.bs, x.T, mv⟩])) := by
  have hl := h.room16 hk
  obtain ⟨C', hC', _, h30, _⟩ := h.cap k hk
  have eC : C' = C := by rw [hC] at hC'; injection hC' with e; injection e with _ e; exact e.symm
  subst eC
  have hj : j < (fr k d).length := (List.getElem?_eq_some_iff.1 hx).1
  obtain ⟨gb, r1, r2, t', l1⟩ := h.frs k d hk hd x (get_mem hx)
  have hq : ((fr k d).map Fr.q)[j]'(by rw [List.length_map]; exact hj) = x.q := by
    rw [List.getElem_map, (List.getElem?_eq_some_iff.1 hx).2]
  refine (double_sp (gb := gb) (m := x.bs.length) (mv := x.mv) (K := K) (U := x.T) h.net h.row hk hd hup hC (h.hbag k d hk hd) hT (h.bag k d hk hd) (by rw [List.length_map]; exact hlt) h30 (by rw [List.length_map]; exact hj) (by rw [hq]; exact r1) t').mono ?_
  rintro e w' ⟨rfl, ho, v', q', mv', hr, hbag, hqq, hrq, ht2, hm2, hx2⟩
  have r2' : Row w' gb (bcells x.bs) 5 := ho.row r2 (far_of r2 (by decide) (by decide) h.row (h.bag k d hk hd))
  have t : BagTurn w w' g k d (vs k d) v' c ((c.set (k * 16 + 14 + d) v').set (k * 16 + 12 + d) (.int .u64 (IntKind.u64.wrap (CT + 1)))) (fr k d) (fr k d ++ [⟨q', x.bs, x.T, mv'⟩]) K :=
    { only := ho, row := hr
      same := fun i hi => cell2 (by omega) (by omega)
      cnt := cnt_set2 (fun i h4 h14 => h.cnt k i hk h4 h14) (by omega) hl
      here := cell_set1 (by omega) (by omega)
      there := fun d' hd' hne => cell2 (by omega) (by omega)
      len := by simp
      one := one_set (one_set h.one _ (blk_one hbag)) _ rfl
      bag := by rw [List.map_append]; exact hbag
      blks := hx2
      frs := fun y hy => by
        rcases List.mem_append.1 hy with h1 | h1
        · exact .inl h1
        · have e : y = ⟨q', x.bs, x.T, mv'⟩ := by simpa using h1
          subst e
          exact .inr ⟨⟨gb, hrq, r2', ht2, l1⟩, hqq, hm2⟩
      sep := fun j j' x x' => h.sepSnoc hk hd hqq hm2 j j' x x'
      room := fun C2 hC2 => by
        rw [hC] at hC2
        injection hC2 with e
        injection e with _ e
        subst e
        rw [List.length_append]
        simp
        omega }
  exact ⟨rfl, v', q', mv', h.turn hk hd t, h.stays hk hd t⟩
end
end Go.Proofs.Ytjnmfedefmemnaa
