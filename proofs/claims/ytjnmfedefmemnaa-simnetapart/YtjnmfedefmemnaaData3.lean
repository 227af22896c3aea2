import Derived.Test.YtjnmfedefmemnaaData2
namespace Go.Proofs.Ytjnmfedefmemnaa
open Go.RowKit Go.Maps
set_option maxRecDepth 100000

section
variable {B : Nat} {w w' : World} {p g n K : Nat} {vs : Nat → Nat → Value} {fr : Nat → Nat → List Fr} {D : Dat}
theorem NetP.more (h : NetP B w p g n vs fr K D) {K' : Nat} (hK : K ≤ K') : NetP B w p g n vs fr K' D := by
  obtain ⟨c, h1, h2⟩ := h
  exact ⟨c, { h1 with frs := fun k d hk hd x hx => (h1.frs k d hk hd x hx).up hK }, h2⟩
theorem NetP.double (h : NetP B w p g n vs fr K D) (x y z : Int) :
    Calls Try.prog 11 #[.pointer (some ⟨p, 0, none⟩), .int .i64 x, .int .i64 y, .int .i64 z] w fun e w' => (∃ b er, e = .returned (.tuple #[.bool b, .int .i64 er])) ∧ ∃ vs' fr', NetP B w' p g n vs' fr' K (D.double n x y z) ∧ Stays w w' g n vs vs' fr fr' := by
  unfold Dat.double
  by_cases he : D.err n x y z true = 0
  · have h' := h
    obtain ⟨c, hG, hD⟩ := h
    obtain ⟨k, d, j, rfl, rfl, rfl, hk, hd, hj, hup⟩ := Dat.err_zero he
    obtain ⟨u, hu, hat⟩ := dat_at hD hk hd hj
    have hu0 : c[k * 16]? = some (.bool true) := by rw [hD.up k hk, hup rfl]
    have hlen : ((D.fd k d).length : Int) = ((fr k d).length : Int) := by rw [← hD.fd k d hk hd, List.length_map]
    simp only [Int.toNat_natCast]
    by_cases hr : ((D.fd k d).length : Int) < D.cap k
    · rw [if_pos ⟨he, hr⟩]
      have c8 : c[k * 16 + 12 + d]? = some (.int .u64 (D.cn k (12 + d))) := by rw [Nat.add_assoc]; exact hD.cn k (12 + d) hk (by omega) (by omega)
      refine (hG.double hk hd hu0 (hD.cap k hk) c8 (by rw [← hlen]; exact hr) hu).mono ?_
      rintro e w' ⟨rfl, v', q, mv, hG', hS⟩
      refine ⟨⟨_, _, rfl⟩, _, _, ⟨_, hG', ?_⟩, hS⟩
      have h1 := ((hD.bagv (k := k) hd v').count (by simpa using hG.len) hk (i := 12 + d) (by omega) (by omega) (bump (D.cn k (12 + d)))).frames (k := k) (d := d) (fr k d ++ [⟨q, u.bs, u.T, mv⟩])
      rw [← Nat.add_assoc] at h1
      rw [List.map_append, hD.fd k d hk hd] at h1
      rw [hat]
      exact h1
    · rw [if_neg (fun e => hr e.2)]
      refine (double_full hG.net hG.row hk hd hu0 (hD.cap k hk) (hG.hbag k d hk hd) (hG.bag k d hk hd) (by rw [List.length_map, ← hlen]; exact Int.not_lt.1 hr) (j := j) (by rw [List.length_map]; exact (List.getElem?_eq_some_iff.1 hu).1)).mono ?_
      rintro e w' ⟨rfl, hb⟩
      exact ⟨⟨_, _, rfl⟩, _, _, h'.kept hb, Stays.below hb⟩
  · rw [if_neg (fun e => he e.1)]
    refine (double_er (h.findEr he)).mono ?_
    rintro e w' ⟨rfl, hb⟩
    exact ⟨⟨_, _, rfl⟩, _, _, h.kept hb, Stays.below hb⟩
theorem NetG.spoilBad {c : List Value} (h : NetG B w p g n c vs fr K) {k d : Nat} (hk : k < n) (hd : d < 2) {j : Nat} {x : Fr} (hx : (fr k d)[j]? = some x) {a : Int} (ha : a < 0 ∨ (x.bs.length : Int) ≤ a) (m : BitVec 8) :
    Calls Try.prog 17 #[.pointer (some ⟨p, 0, none⟩), .int .i64 k, .int .i64 d, .int .i64 j, .int .i64 a, .int .u8 (ub m)] w fun e w' => ∃ er : Int, e = .returned (.int .i64 er) ∧ er = 46 ∧ Below w.heap.size w w' := by
  have hb := below_grow (below_grow (Below.refl w.heap.size w) (.cells #[.int .i64 a] 3)) (.cells #[.int .u8 (ub m)] 5)
  obtain ⟨gb, r1, r2, t', l1⟩ := h.frs k d hk hd x (get_mem hx)
  have q1 : Row ((w.alloc (.cells #[.int .i64 a] 3)).alloc (.cells #[.int .u8 (ub m)] 5)) w.heap.size [.int .i64 a] 3 := (Row.new' _ _ _ _ _ rfl rfl).alloc _
  refine spoil_by (find_sp (h.net.kept hb h.net.lt) (h.row.kept hb h.row.lt) hk hd (h.hbag k d hk hd) ((h.bag k d hk hd).kept hb) (j := j) (q := x.q) (by rw [List.getElem?_map, hx]; rfl) ((spoil1_bad (r1.kept hb r1.lt) ha q1).mono ?_))
  rintro e w' ⟨rfl, hb2⟩
  exact ⟨46, rfl, rfl, hb.trans (hb2.mono hb.size)⟩
theorem NetP.spoil (h : NetP B w p g n vs fr K D) (x y z a : Int) (m : BitVec 8) (hK : K < 281474976710656) :
    Calls Try.prog 17 #[.pointer (some ⟨p, 0, none⟩), .int .i64 x, .int .i64 y, .int .i64 z, .int .i64 a, .int .u8 (ub m)] w fun e w' => (∃ er, e = .returned (.int .i64 er)) ∧ ∃ vs' fr', NetP B w' p g n vs' fr' (K + 1) (D.spoil n x y z a m) ∧ Stays w w' g n vs vs' fr fr' := by
  unfold Dat.spoil
  by_cases he : D.err n x y z false = 0
  · have h' := h
    obtain ⟨c, hG, hD⟩ := h
    obtain ⟨k, d, j, rfl, rfl, rfl, hk, hd, hj, _⟩ := Dat.err_zero he
    obtain ⟨u, hu, hat⟩ := dat_at hD hk hd hj
    by_cases ha : 0 ≤ a ∧ a < ((D.at k d j).1.length : Int)
    · rw [if_pos ⟨he, ha⟩]
      obtain ⟨i, rfl⟩ := Int.eq_ofNat_of_zero_le ha.1
      have hi : i < u.bs.length := by have := ha.2; rw [hat] at this; simpa using this
      refine (hG.spoil hk hd hu hi hK m).mono ?_
      rintro e w' ⟨er, rfl, rfl, mv', hG', hS⟩
      refine ⟨⟨_, rfl⟩, _, _, ⟨_, hG', ?_⟩, hS⟩
      simp only [Int.toNat_natCast]
      have h1 := hD.frames (k := k) (d := d) ((fr k d).set j ⟨u.q, u.bs, turnT u.T i m, mv'⟩)
      rw [List.map_set, hD.fd k d hk hd] at h1
      rw [hat]
      exact h1
    · rw [if_neg (fun e => ha e.2)]
      refine (hG.spoilBad hk hd hu (a := a) (by rw [hat] at ha; simp only at ha; omega) m).mono ?_
      rintro e w' ⟨er, rfl, rfl, hb⟩
      exact ⟨⟨_, rfl⟩, _, _, (h'.kept hb).more (Nat.le_succ K), Stays.below hb⟩
  · rw [if_neg (fun e => he e.1)]
    refine (spoil_er (h.findEr he) a (ub m)).mono ?_
    rintro e w' ⟨rfl, hb⟩
    exact ⟨⟨_, rfl⟩, _, _, (h.kept hb).more (Nat.le_succ K), Stays.below hb⟩
theorem NetP.set (h : NetP B w p g n vs fr K D) (x : Int) (b : Bool) :
    Calls Try.prog 18 #[.pointer (some ⟨p, 0, none⟩), .int .i64 x, .bool b] w fun e w' => (∃ er, e = .returned (.int .i64 er)) ∧ ∃ vs' fr', NetP B w' p g n vs' fr' K (D.set n x b) ∧ Stays w w' g n vs vs' fr fr' := by
  unfold Dat.set
  obtain ⟨c, hG, hD⟩ := h
  by_cases hx : 0 ≤ x ∧ x < n
  · rw [if_pos hx]
    obtain ⟨k, rfl⟩ := Int.eq_ofNat_of_zero_le hx.1
    have hk : k < n := by omega
    have hl := hG.room16 hk
    refine (hG.set hk b).mono ?_
    rintro e w' ⟨rfl, hG', hS⟩
    refine ⟨⟨_, rfl⟩, _, _, ⟨_, hG', ?_⟩, hS⟩
    simp only [Int.toNat_natCast]
    exact
      { up := fun k' hk' => by
          by_cases e : k' = k
          · subst e
            rw [List.getElem?_set_self (by omega)]
            simp only [if_pos]
          · rw [List.getElem?_set_ne (by omega)]
            simp only [if_neg e]
            exact hD.up k' hk'
        cap := fun k' hk' => by rw [List.getElem?_set_ne (by omega)]; exact hD.cap k' hk'
        cn := fun k' i hk' h1 h2 => by rw [List.getElem?_set_ne (by omega)]; exact hD.cn k' i hk' h1 h2
        fd := hD.fd }
  · rw [if_neg hx]
    refine Calls.mono (set_out (hG.net.cell 0 _ rfl) (by omega) _) ?_
    rintro e w' ⟨rfl, rfl⟩
    exact ⟨⟨_, rfl⟩, _, _, ⟨c, hG, hD⟩, Stays.below (Below.refl _ _)⟩
theorem NetP.peek (h : NetP B w p g n vs fr K D) {k d j : Nat} (hk : k < n) (hd : d < 2) (hj : j < (D.fd k d).length) :
    Calls Try.prog 12 #[.pointer (some ⟨p, 0, none⟩), .int .i64 k, .int .i64 d, .int .i64 j] w fun e w' => ∃ g', e = .returned (.tuple #[.agg #[.slice (some ⟨g', 0, none⟩) (D.at k d j).1.length (D.at k d j).1.length, .bool (sp (D.at k d j).2 (D.at k d j).1.length)], .int .i64 0]) ∧ w.heap.size ≤ g' ∧ Row w' g' (bcells (xorT (D.at k d j).1 (D.at k d j).2)) 5 ∧ Below w.heap.size w w' := by
  obtain ⟨c, hG, hD⟩ := h
  obtain ⟨u, hu, hat⟩ := dat_at hD hk hd hj
  obtain ⟨gb, r1, r2, t', l1⟩ := hG.frs k d hk hd u (get_mem hu)
  have hj' : j < (fr k d).length := (List.getElem?_eq_some_iff.1 hu).1
  have hq : ((fr k d).map Fr.q)[j]'(by rw [List.length_map]; exact hj') = u.q := by rw [List.getElem_map, (List.getElem?_eq_some_iff.1 hu).2]
  rw [hat]
  exact peek_sp hG.net hG.row hk hd (hG.hbag k d hk hd) (hG.bag k d hk hd) (by rw [List.length_map]; exact hj') (by rw [hq]; exact ⟨gb, u.mv, r1, r2, t'⟩) l1
/-- Look at a path that is there. -/
theorem NetP.look (h : NetP B w p g n vs fr K D) {k : Nat} (hk : k < n) :
    Calls Try.prog 15 #[.pointer (some ⟨p, 0, none⟩), .int .i64 k] w fun e w' => ∃ cv : List Value, e = .returned (.tuple #[.agg cv.toArray, .int .i64 0]) ∧ cv.length = 14 ∧ (∀ v ∈ cv, v.oneCell' = true) ∧ cv[0]? = some (.bool (D.up k)) ∧ cv[1]? = some (.int .i64 (D.cap k)) ∧ (∀ d, d < 2 → cv[2 + d]? = some (.int .i64 (D.fd k d).length)) ∧ (∀ i, 4 ≤ i → i < 14 → cv[i]? = some (.int .u64 (D.cn k i))) ∧ Below w.heap.size w w' := by
  obtain ⟨c, hG, hD⟩ := h
  have hl := hG.room16 hk
  obtain ⟨a0, cap0, e0⟩ := (hG.bag k 0 hk (by decide)).shape
  obtain ⟨a1, cap1, e1⟩ := (hG.bag k 1 hk (by decide)).shape
  have b0 := hG.hbag k 0 hk (by decide)
  have b1 := hG.hbag k 1 hk (by decide)
  rw [e0] at b0
  rw [e1] at b1
  have n0 : ((fr k 0).map Fr.q).length = (D.fd k 0).length := by rw [← hD.fd k 0 hk (by decide), List.length_map, List.length_map]
  have n1 : ((fr k 1).map Fr.q).length = (D.fd k 1).length := by rw [← hD.fd k 1 hk (by decide), List.length_map, List.length_map]
  rw [n0] at b0
  rw [n1] at b1
  refine (look_in hG.net hG.row hk hl b0 b1 hG.one).mono ?_
  rintro e w' ⟨rfl, hb⟩
  have at_ : ∀ i, i ≠ 2 → i ≠ 3 → i < 14 → ((((c.drop (k * 16)).take 14).set 2 (.int .i64 (D.fd k 0).length)).set 3 (.int .i64 (D.fd k 1).length))[i]? = c[k * 16 + i]? := fun i h2 h3 h14 => by
    rw [List.getElem?_set_ne (Ne.symm h3), List.getElem?_set_ne (Ne.symm h2), List.getElem?_take_of_lt h14, List.getElem?_drop]
  have hl14 : ((c.drop (k * 16)).take 14).length = 14 := by simp; omega
  refine ⟨_, rfl, by simp; omega, fun v hv => ?_, by rw [at_ 0 (by decide) (by decide) (by decide)]; exact hD.up k hk, by rw [at_ 1 (by decide) (by decide) (by decide)]; exact hD.cap k hk, fun d hd => ?_, fun i h4 h14 => by rw [at_ i (by omega) (by omega) h14]; exact hD.cn k i hk h4 h14, hb⟩
  · rcases List.mem_or_eq_of_mem_set hv with hv | rfl
    · rcases List.mem_or_eq_of_mem_set hv with hv | rfl
      · exact hG.one v (List.mem_of_mem_drop (List.mem_of_mem_take hv))
      · rfl
    · rfl
  · rcases (show d = 0 ∨ d = 1 by omega) with rfl | rfl
    · rw [List.getElem?_set_ne (by decide), List.getElem?_set_self (by omega)]
    · rw [List.getElem?_set_self (by rw [List.length_set]; omega)]
end
end Go.Proofs.Ytjnmfedefmemnaa
