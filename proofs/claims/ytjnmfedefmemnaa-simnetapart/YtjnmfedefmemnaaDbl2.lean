import Derived.Test.YtjnmfedefmemnaaDbl
namespace Go.Proofs.Ytjnmfedefmemnaa
open Go.RowKit
set_option maxRecDepth 100000

/-- What Double leaves. -/
def DoubledAt (w w' : World) (g b d gb n : Nat) (c : List Value) (v : Value) (qs : List Nat) : Prop :=
  ∃ v' q' T', Row w' g ((c.set (b + 14 + d) v').set (b + 12 + d) (.int .u64 T')) 67 ∧ BagAt w' v' (qs ++ [q']) ∧ w.heap.size ≤ q' ∧ Row w' q' [.slice (some ⟨gb, 0, none⟩) n n, .map none] 84 ∧ (∀ x ∈ blk v', x ∈ blk v ∨ w.heap.size ≤ x)
set_option maxHeartbeats 2000000 in
theorem find_double {w : World} {p n g k d j lb db gb m : Nat} {c : List Value} {v : Value} {qs : List Nat} {C T : Int}
    (HN : Row w p [.slice (some ⟨g, 0, none⟩) n n] 52) (R : Row w g c 67) (hk : k < n) (hd : d < 2) (hup : c[k * 16]? = some (.bool true)) (hC : c[k * 16 + 1]? = some (.int .i64 C)) (hv : c[k * 16 + 14 + d]? = some v) (hT : c[k * 16 + 12 + d]? = some (.int .u64 T)) (hB : BagAt w v qs) (hlt : (qs.length : Int) < C) (hC30 : C ≤ 1073741824) (hj : j < qs.length)
    (h : Row w qs[j] [.slice (some ⟨gb, 0, none⟩) m m, .map none] 84) (hdb : Row w db [.int .i64 d] 3) (hlb : Row w lb [.bool false] 4) :
    Calls Try.prog 27 #[.pointer (some ⟨p, 0, none⟩), .int .i64 k, .int .i64 d, .int .i64 j, .bool true, .func (.func 28) #[] #[.pointer (some ⟨db, 0, none⟩), .pointer (some ⟨lb, 0, none⟩)]] w fun e w' => e = .returned (.int .i64 0) ∧ Row w' lb [.bool true] 4 ∧ Only (lb :: g :: blk v) w w' ∧ DoubledAt w w' g (k * 16) d gb m c v qs := by
  have HBI := hid (bag_in (HN.cell 0 _ rfl) hk hd)
  have HP := hid (double1_any R hd hC hv hT hB hlt hC30 h hdb hlb)
  have c0 := R.cell _ _ hup
  have c1 := R.cell _ _ hv
  obtain ⟨gbb, o, cap, rfl, c2⟩ := hB.cell j hj
  have k1 : (0 : Int) ≤ (d : Int) := by omega
  have k2 : (d : Int) < 2 := by omega
  have j1 : decide ((j : Int) < 0) = false := by simp
  have j2 : decide ((qs.length : Int) ≤ (j : Int)) = false := by simp; omega
  have j3 : decide ((j : Int) ≥ (qs.length : Int)) = false := by simp; omega
  have j4 : (j : Int) < (qs.length : Int) := by omega
  unfold ptr at c2
  clear R hup hC hv hT hB hlt hC30 h hdb hlb HN hk
  generalize qs[j] = q at *
  go_enter Try.func27, Try.ntmps27
  go_wp2_with (first
    | (go_at_call 23; refine Calls.mono HBI.out ?_; rintro e w' ⟨rfl, rfl⟩)
    | (go_at_call 28; refine Calls.mono HP.out ?_; rintro e w1 ⟨rfl, v', q', T', h1, h2, h3, h4, h5, h6, h7⟩; have H1 := hid h1; have H6 := hid h6; have HD : Hid (DoubledAt _ w1 g (k * 16) d gb m c _ qs) := ⟨v', q', T', h2, h3, h4, h5, h7⟩; clear h1 h2 h3 h4 h5 h6 h7))
  go_ret
  exact ⟨rfl, H1.out, H6.out, HD.out⟩
set_option maxHeartbeats 2000000 in
theorem double_in {w : World} {p n g k d j gb m : Nat} {c : List Value} {v : Value} {qs : List Nat} {C T : Int}
    (HN : Row w p [.slice (some ⟨g, 0, none⟩) n n] 52) (R : Row w g c 67) (hk : k < n) (hd : d < 2) (hup : c[k * 16]? = some (.bool true)) (hC : c[k * 16 + 1]? = some (.int .i64 C)) (hv : c[k * 16 + 14 + d]? = some v) (hT : c[k * 16 + 12 + d]? = some (.int .u64 T)) (hB : BagAt w v qs) (hlt : (qs.length : Int) < C) (hC30 : C ≤ 1073741824) (hj : j < qs.length)
    (h : Row w qs[j] [.slice (some ⟨gb, 0, none⟩) m m, .map none] 84) :
    Calls Try.prog 11 #[.pointer (some ⟨p, 0, none⟩), .int .i64 k, .int .i64 d, .int .i64 j] w fun e w' => e = .returned (.tuple #[.bool true, .int .i64 0]) ∧ Only (g :: blk v) w w' ∧ DoubledAt w w' g (k * 16) d gb m c v qs := by
  have hb := below_grow (below_grow (Below.refl w.heap.size w) (.cells #[.int .i64 d] 3)) (.cells #[.bool false] 4)
  have r1 : Row ((w.alloc (.cells #[.int .i64 d] 3)).alloc (.cells #[.bool false] 4)) w.heap.size [.int .i64 d] 3 := (Row.new' _ _ _ _ _ rfl rfl).alloc _
  have r2 : Row ((w.alloc (.cells #[.int .i64 d] 3)).alloc (.cells #[.bool false] 4)) (w.heap.size + 1) [.bool false] 4 := Row.new' _ _ _ _ _ (by simp) rfl
  have HF := hid (find_double (HN.kept hb HN.lt) (R.kept hb R.lt) hk hd hup hC hv hT (hB.kept hb) hlt hC30 hj (h.kept hb h.lt) r1 r2)
  have HB := hid hb
  clear HN R hk hup hC hv hT hB hlt hC30 h hb r1 r2
  go_enter Try.func11, Try.ntmps11
  go_upto_region 3 with (go_at_call 27; refine Calls.mono HF.out ?_; rintro e w1 ⟨rfl, h1, h2, h3⟩; have H1 := hid h1; have H2 := hid h2; have H3 := hid h3; clear h1 h2 h3)
  have c0 := H1.out.cell 0 _ rfl
  have HX : Hid (Only (g :: blk v) w w1) := (Only.of_below (S := g :: blk v) HB.out (Nat.le_refl _)).trans H2.out (fun x hx => by
    rcases List.mem_cons.1 hx with rfl | hx
    · exact .inr (by omega)
    · exact .inl hx)
  clear HF H1 H2
  go_wp2
  go_ret2
  obtain ⟨v', q', T', h2, h3, h4, h5, h7⟩ := H3.out
  refine ⟨rfl, HX.out, v', q', T', h2, h3, Nat.le_trans HB.out.size h4, h5, fun x hx => ?_⟩
  rcases h7 x hx with h | h
  · exact .inl h
  · exact .inr (Nat.le_trans HB.out.size h)
/-- A lane all of whose blocks lie below M. -/
structure LaneS (M B : Nat) (w : World) (p g n k d : Nat) (up : Bool) (C L : Int) (c : List Value) (v : Value) (qs : List Nat) (fs : List (List (BitVec 8))) : Prop where
  lane : Lane B w p g n k d up C L c v qs fs
  hM : M ≤ w.heap.size
  hp : p < M
  hg : g < M
  hb : ∀ x ∈ blk v, x < M
  pm : ∀ (j q : Nat) (f : List (BitVec 8)), qs[j]? = some q → fs[j]? = some f → ∃ gb, gb < M ∧ q < M ∧ Row w q [.slice (some ⟨gb, 0, none⟩) f.length f.length, .map none] 84 ∧ Row w gb (bcells f) 5
section
variable {M B : Nat} {w w' : World} {p g n k d : Nat} {up : Bool} {C L : Int} {c : List Value} {v : Value} {qs : List Nat} {fs : List (List (BitVec 8))}
theorem Lane.small (h : Lane B w p g n k d up C L c v qs fs) : LaneS w.heap.size B w p g n k d up C L c v qs fs :=
  { lane := h, hM := Nat.le_refl _, hp := h.net.lt, hg := h.row.lt
    hb := fun x hx => by obtain ⟨c', R'⟩ := h.bag.blkRow x hx; exact R'.lt
    pm := fun j q f h1 h2 => by obtain ⟨gb, r1, r2⟩ := h.pk j q f h1 h2; exact ⟨gb, r2.lt, r1.lt, r1, r2⟩ }
theorem LaneS.kept (h : LaneS M B w p g n k d up C L c v qs fs) (hb : Below M w w') : LaneS M B w' p g n k d up C L c v qs fs := by
  have hpm : ∀ (j q : Nat) (f : List (BitVec 8)), qs[j]? = some q → fs[j]? = some f → ∃ gb, gb < M ∧ q < M ∧ Row w' q [.slice (some ⟨gb, 0, none⟩) f.length f.length, .map none] 84 ∧ Row w' gb (bcells f) 5 := fun j q f h1 h2 => by
    obtain ⟨gb, l1, l2, r1, r2⟩ := h.pm j q f h1 h2
    exact ⟨gb, l1, l2, r1.kept hb l2, r2.kept hb l1⟩
  refine { h with hM := Nat.le_trans h.hM hb.size, pm := hpm, lane := ?_ }
  exact { h.lane with
    net := h.lane.net.kept hb h.hp
    row := h.lane.row.kept hb h.hg
    bag := by
      rcases h.lane.bag with h1 | ⟨gb, o, cap, cb, rfl, R, h2⟩
      · exact .inl h1
      · exact .inr ⟨gb, o, cap, cb, rfl, R.kept hb (h.hb gb (by simp [blk])), h2⟩
    pk := fun j q f h1 h2 => by obtain ⟨gb, _, _, r1, r2⟩ := hpm j q f h1 h2; exact ⟨gb, r1, r2⟩ }
set_option maxHeartbeats 1000000 in
theorem LaneS.take (h : LaneS M B w p g n k d true C L c v qs fs) {j : Nat} (hj : j < fs.length) :
    Calls Try.prog 13 #[.pointer (some ⟨p, 0, none⟩), .int .i64 k, .int .i64 d, .int .i64 j] w fun e w' => ∃ g', e = .returned (.tuple #[.agg #[.slice (some ⟨g', 0, none⟩) fs[j].length fs[j].length, .bool false], .int .i64 0]) ∧ w.heap.size ≤ g' ∧ Row w' g' (bcells fs[j]) 5 ∧ ∃ c' v' qs', LaneS M B w' p g n k d true C L c' v' qs' (fs.eraseIdx j) ∧ Keeps B w w' := by
  have hl := h.lane
  obtain ⟨T, hT⟩ := hl.htak
  have hd := hl.hd
  have hjq : j < qs.length := by rw [hl.cnt]; exact hj
  have hroom := hl.room
  have h30 := hl.cap30
  refine (take_in hl.net hl.row hl.hk hl.hd hl.hup hl.hbag hT hl.bag (by omega) hjq (hl.pk j _ _ (List.getElem?_eq_getElem hjq) (List.getElem?_eq_getElem hj)) (hl.fl _ (List.getElem_mem hj))).mono ?_
  rintro e w' ⟨g', rfl, hg, hrb, ho, v', T', hr, hbag, hv⟩
  have hpm : ∀ (i q : Nat) (f : List (BitVec 8)), (qs.eraseIdx j)[i]? = some q → (fs.eraseIdx j)[i]? = some f → ∃ gb, gb < M ∧ q < M ∧ Row w' q [.slice (some ⟨gb, 0, none⟩) f.length f.length, .map none] 84 ∧ Row w' gb (bcells f) 5 := fun i q f h1 h2 => by
    have hh : ∃ i : Nat, qs[i]? = some q ∧ fs[i]? = some f := by
      rw [List.getElem?_eraseIdx] at h1 h2
      split at h1
      · rename_i hi; rw [if_pos hi] at h2; exact ⟨i, h1, h2⟩
      · rename_i hi; rw [if_neg hi] at h2; exact ⟨i + 1, h1, h2⟩
    obtain ⟨i', e1, e2⟩ := hh
    obtain ⟨gb, l1, l2, r1, r2⟩ := h.pm i' q f e1 e2
    exact ⟨gb, l1, l2, ho.row r1 (far_of r1 (by decide) (by decide) hl.row hl.bag), ho.row r2 (far_of r2 (by decide) (by decide) hl.row hl.bag)⟩
  refine ⟨g', rfl, hg, hrb, (c.set (k * 16 + 14 + d) v').set (k * 16 + 8 + d) (.int .u64 T'), v', qs.eraseIdx j, ?_, hl.keeps ho⟩
  have hk := hl.keeps ho
  have e2 : ∀ i {u : Value}, c[i]? = some u → i ≠ k * 16 + 14 + d → i ≠ k * 16 + 8 + d → ((c.set (k * 16 + 14 + d) v').set (k * 16 + 8 + d) (.int .u64 T'))[i]? = some u := fun i u hu n1 n2 => set_at (set_at hu n1) n2
  have hin : k * 16 + 14 + d < c.length := (List.getElem?_eq_some_iff.1 hl.hbag).1
  have hlen : (qs.eraseIdx j).length = qs.length - 1 := by rw [List.length_eraseIdx, if_pos hjq]
  obtain ⟨P, hP⟩ := hl.hput
  obtain ⟨T2, hT2⟩ := hl.htwi
  have hlane : Lane B w' p g n k d true C L ((c.set (k * 16 + 14 + d) v').set (k * 16 + 8 + d) (.int .u64 T')) v' (qs.eraseIdx j) (fs.eraseIdx j) :=
    { net := hk.row hl.net (by decide) (by decide), row := hr, len := by simp [hl.len], one := one_set (one_set hl.one _ (blk_one hbag)) _ rfl, bp := hl.bp, bg := hl.bg, hk := hl.hk, hd := hl.hd
      hup := e2 _ hl.hup (by omega) (by omega), hcap := e2 _ hl.hcap (by omega) (by omega)
      hput := ⟨P, e2 _ hP (by omega) (by omega)⟩
      hlost := e2 _ hl.hlost (by omega) (by omega), htak := ⟨T', by rw [List.getElem?_set_self (by simp; omega)]⟩, htwi := ⟨T2, e2 _ hT2 (by omega) (by omega)⟩
      hbag := set_at (by rw [List.getElem?_set_self hin]) (by omega)
      bag := hbag
      bb := fun x hxx => hl.bb x (hv ▸ hxx)
      cap30 := hl.cap30
      room := by rw [hlen]; omega
      cnt := by rw [hlen, List.length_eraseIdx, if_pos hj, hl.cnt]
      pk := fun i q f h1 h2 => by obtain ⟨gb, _, _, r1, r2⟩ := hpm i q f h1 h2; exact ⟨gb, r1, r2⟩
      fl := fun f hf => hl.fl f (List.mem_of_mem_eraseIdx hf) }
  exact { lane := hlane, hM := Nat.le_trans h.hM hk.size, hp := h.hp, hg := h.hg, hb := fun x hx => h.hb x (hv ▸ hx), pm := hpm }
set_option maxHeartbeats 1000000 in
theorem Lane.double (h : Lane B w p g n k d true C L c v qs fs) (hlt : (fs.length : Int) < C) {j : Nat} (hj : j < fs.length) :
    Calls Try.prog 11 #[.pointer (some ⟨p, 0, none⟩), .int .i64 k, .int .i64 d, .int .i64 j] w fun e w' => e = .returned (.tuple #[.bool true, .int .i64 0]) ∧ ∃ c' v' qs', Lane B w' p g n k d true C L c' v' qs' (fs ++ [fs[j]]) ∧ Keeps B w w' := by
  obtain ⟨T2, hT2⟩ := h.htwi
  have hd := h.hd
  have hjq : j < qs.length := by rw [h.cnt]; exact hj
  obtain ⟨gb, r1, r2⟩ := h.pk j _ _ (List.getElem?_eq_getElem hjq) (List.getElem?_eq_getElem hj)
  refine (double_in h.net h.row h.hk h.hd h.hup h.hcap h.hbag hT2 h.bag (by rw [h.cnt]; exact hlt) h.cap30 hjq r1).mono ?_
  rintro e w' ⟨rfl, ho, v', q, T', hr, hbag, hq, hrq, hx⟩
  have hpa : PAt w' q fs[j] := ⟨gb, hrq, ho.row r2 (far_of r2 (by decide) (by decide) h.row h.bag)⟩
  refine ⟨rfl, (c.set (k * 16 + 14 + d) v').set (k * 16 + 12 + d) (.int .u64 T'), v', qs ++ [q], ?_, h.keeps ho⟩
  have hk := h.keeps ho
  have e2 : ∀ i {u : Value}, c[i]? = some u → i ≠ k * 16 + 14 + d → i ≠ k * 16 + 12 + d → ((c.set (k * 16 + 14 + d) v').set (k * 16 + 12 + d) (.int .u64 T'))[i]? = some u := fun i u hu n1 n2 => set_at (set_at hu n1) n2
  have hin : k * 16 + 14 + d < c.length := (List.getElem?_eq_some_iff.1 h.hbag).1
  obtain ⟨P, hP⟩ := h.hput
  obtain ⟨T, hT⟩ := h.htak
  exact
    { net := hk.row h.net (by decide) (by decide), row := hr, len := by simp [h.len], one := one_set (one_set h.one _ (blk_one hbag)) _ rfl, bp := h.bp, bg := h.bg, hk := h.hk, hd := h.hd
      hup := e2 _ h.hup (by omega) (by omega), hcap := e2 _ h.hcap (by omega) (by omega)
      hput := ⟨P, e2 _ hP (by omega) (by omega)⟩
      hlost := e2 _ h.hlost (by omega) (by omega), htak := ⟨T, e2 _ hT (by omega) (by omega)⟩, htwi := ⟨T', by rw [List.getElem?_set_self (by simp; omega)]⟩
      hbag := set_at (by rw [List.getElem?_set_self hin]) (by omega)
      bag := hbag
      bb := fun x hxx => by
        rcases hx x hxx with h1 | h1
        · exact h.bb x h1
        · exact Nat.le_trans h.lt h1
      cap30 := h.cap30
      room := by rw [List.length_append, h.cnt]; simp; omega
      cnt := by simp [h.cnt]
      pk := fun i q' f h1 h2 => by
        by_cases hi : i < qs.length
        · rw [List.getElem?_append_left hi] at h1
          rw [List.getElem?_append_left (by rw [← h.cnt]; exact hi)] at h2
          exact h.pkOnly ho (h.pk i q' f h1 h2)
        · rw [List.getElem?_append_right (by omega)] at h1
          rw [List.getElem?_append_right (by rw [← h.cnt]; omega), ← h.cnt] at h2
          have : i - qs.length = 0 := by
            have := (List.getElem?_eq_some_iff.1 h1).1
            simp at this
            omega
          rw [this] at h1 h2
          simp at h1 h2
          subst h1
          subst h2
          exact hpa
      fl := fun f hf => by
        rcases List.mem_append.1 hf with hf | hf
        · exact h.fl f hf
        · simp at hf; subst hf; exact h.fl _ (List.getElem_mem hj) }
end
end Go.Proofs.Ytjnmfedefmemnaa
