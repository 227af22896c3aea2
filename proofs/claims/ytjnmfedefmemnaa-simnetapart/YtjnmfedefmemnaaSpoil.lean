import Derived.Test.YtjnmfedefmemnaaSp0
namespace Go.Proofs.Ytjnmfedefmemnaa
open Go.RowKit Go.Maps
set_option maxRecDepth 100000

/-- What Spoil leaves of a frame. -/
def SpoiltAt (w w' : World) (q K n gb : Nat) (bs : List (BitVec 8)) (T : Nat → BitVec 8) (mv : Value) : Prop :=
  ∃ mv', Row w' q [.slice (some ⟨gb, 0, none⟩) n n, mv'] 84 ∧ Row w' gb (bcells bs) 5 ∧ TurnAt w' mv' n K T ∧ (∀ x ∈ mblk mv', x ∈ mblk mv ∨ w.heap.size ≤ x)
set_option maxHeartbeats 2000000 in
theorem spoil1_ok {w : World} {q K gb ab mb : Nat} {r mv : Value} {bs : List (BitVec 8)} {T : Nat → BitVec 8} {j : Nat} {m : BitVec 8} (R : Row w q [.slice (some ⟨gb, 0, none⟩) bs.length bs.length, mv] 84) (R2 : Row w gb (bcells bs) 5) (hT : TurnAt w mv bs.length K T) (hj : j < bs.length) (hm : bs.length ≤ 140737488351232) (hK : K < 281474976710656)
    (ha : Row w ab [.int .i64 j] 3) (hb : Row w mb [.int .u8 (ub m)] 5) :
    Calls Try.prog 36 #[r, .pointer (some ⟨q, 0, none⟩), .pointer (some ⟨ab, 0, none⟩), .pointer (some ⟨mb, 0, none⟩)] w fun e w' => e = .returned (.int .i64 0) ∧ Only (q :: mblk mv) w w' ∧ SpoiltAt w w' q (K + 1) bs.length gb bs (turnT T j m) mv := by
  have a0 := ha.cell 0 _ rfl
  have b0 := hb.cell 0 _ rfl
  have c0 := R.cell 0 _ rfl
  have j1 : decide ((j : Int) < 0) = false := decide_eq_false (by omega)
  have j2 : decide ((bs.length : Int) ≤ (j : Int)) = false := decide_eq_false (by omega)
  have j3 : decide (bs.length ≤ j) = false := decide_eq_false (by omega)
  have HT : Hid (∀ k, Calls Try.prog 37 #[.pointer (some ⟨q, 0, none⟩), .int .i64 j, .int .u8 (ub m)] (w.drewN k) fun e w' => e = .returned (.tuple #[]) ∧ ∃ mv', Row w' q [.slice (some ⟨gb, 0, none⟩) bs.length bs.length, mv'] 84 ∧ TurnAt w' mv' bs.length (K + 1) (turnT T j m) ∧ Only (q :: mblk mv) (w.drewN k) w' ∧ (∀ x ∈ mblk mv', x ∈ mblk mv ∨ (w.drewN k).heap.size ≤ x)) := fun k => turn_any (R.drewN k) (hT.kept (below_drewN (Below.refl _ _) k)) hj hm hK
  have HR2 := hid R2
  have HQ : Hid (gb ≠ q) := R2.ne R (by decide)
  have HMB : Hid (gb ∉ mblk mv) := fun hx => by
    rcases hT with ⟨rfl, _⟩ | ⟨B, k, D, rfl, ho, _⟩
    · cases hx
    · have : gb = B := by simpa [mblk] using hx
      subst this
      exact own_ne ho R2 rfl
  clear ha hb R R2 hT
  go_enter Try.func36, Try.ntmps36
  go_wp2
  go_quiet (fail)
  go_wp2_with (go_at_call 37; refine Calls.mono (HT.out _) ?_; rintro e w1 ⟨rfl, mv', h1, h2, h3, h4⟩; have H1 := hid h1; have H2 := hid h2; have H3 := hid h3; have H4 := hid h4; clear h1 h2 h3 h4)
  go_ret
  have ho : Only (q :: mblk mv) w w1 := (Only.of_below (S := q :: mblk mv) (below_drewN (Below.refl w.heap.size w) nq) (Nat.le_refl _)).trans H3.out (fun x hx => .inl hx)
  exact ⟨rfl, ho, mv', H1.out, ho.row HR2.out (fun hm => by
    rcases List.mem_cons.1 hm with e | hm
    · exact HQ.out e
    · exact HMB.out hm), H2.out, H4.out⟩
set_option maxHeartbeats 2000000 in
theorem spoil1_bad {w : World} {q gb ab mb n : Nat} {r mv : Value} {x : Int} (R : Row w q [.slice (some ⟨gb, 0, none⟩) n n, mv] 84) (hx : x < 0 ∨ (n : Int) ≤ x) (ha : Row w ab [.int .i64 x] 3) :
    Calls Try.prog 36 #[r, .pointer (some ⟨q, 0, none⟩), .pointer (some ⟨ab, 0, none⟩), .pointer (some ⟨mb, 0, none⟩)] w fun e w' => e = .returned (.int .i64 46) ∧ Below w.heap.size w w' := by
  have a0 := ha.cell 0 _ rfl
  have c0 := R.cell 0 _ rfl
  clear ha R
  by_cases h0 : x < 0
  · have j1 : decide (x < 0) = true := decide_eq_true h0
    go_enter Try.func36, Try.ntmps36
    go_wp2
    go_quiet (fail)
    go_wp2
    go_ret
    exact ⟨rfl, below_drewN (Below.refl _ _) _⟩
  · have j1 : decide (x < 0) = false := decide_eq_false h0
    have j2 : (n : Int) ≤ x := by omega
    have j3 : decide ((n : Int) ≤ x) = true := decide_eq_true j2
    go_enter Try.func36, Try.ntmps36
    go_wp2
    go_quiet (fail)
    go_wp2
    go_ret
    exact ⟨rfl, below_drewN (Below.refl _ _) _⟩
set_option maxHeartbeats 2000000 in
theorem find_sp {w : World} {p n g k d j ab mb q : Nat} {c : List Value} {v : Value} {qs : List Nat} {R : Int → World → Prop}
    (HN : Row w p [.slice (some ⟨g, 0, none⟩) n n] 52) (RG : Row w g c 67) (hk : k < n) (hd : d < 2) (hv : c[k * 16 + 14 + d]? = some v) (hB : BagAt w v qs) (hj : qs[j]? = some q)
    (h36 : Calls Try.prog 36 #[.pointer (some ⟨g, k * 16, none⟩), .pointer (some ⟨q, 0, none⟩), .pointer (some ⟨ab, 0, none⟩), .pointer (some ⟨mb, 0, none⟩)] w fun e w' => ∃ er : Int, e = .returned (.int .i64 er) ∧ R er w') :
    Calls Try.prog 27 #[.pointer (some ⟨p, 0, none⟩), .int .i64 k, .int .i64 d, .int .i64 j, .bool false, .func (.func 36) #[] #[.pointer (some ⟨ab, 0, none⟩), .pointer (some ⟨mb, 0, none⟩)]] w fun e w' => ∃ er : Int, e = .returned (.int .i64 er) ∧ R er w' := by
  have HBI := hid (bag_in (HN.cell 0 _ rfl) hk hd)
  have HP := hid h36
  have c1 := RG.cell _ _ hv
  have hjl : j < qs.length := (List.getElem?_eq_some_iff.1 hj).1
  have hjq : qs[j] = q := (List.getElem?_eq_some_iff.1 hj).2
  obtain ⟨gb, o, cap, rfl, c2⟩ := hB.cell j hjl
  rw [hjq] at c2
  have k1 : (0 : Int) ≤ (d : Int) := by omega
  have k2 : (d : Int) < 2 := by omega
  have j1 : decide ((j : Int) < 0) = false := by simp
  have j2 : decide ((qs.length : Int) ≤ (j : Int)) = false := by simp; omega
  have j3 : decide ((j : Int) ≥ (qs.length : Int)) = false := by simp; omega
  have j4 : (j : Int) < (qs.length : Int) := by omega
  unfold ptr at c2
  clear RG hv hB HN hk h36 hj hjq
  go_enter Try.func27, Try.ntmps27
  go_wp2_with (first
    | (go_at_call 23; refine Calls.mono HBI.out ?_; rintro e w' ⟨rfl, rfl⟩)
    | (go_at_call 36; refine Calls.mono HP.out ?_; rintro e w1 ⟨er, rfl, hh⟩; have HH := hid hh; clear hh))
  go_ret
  exact ⟨er, rfl, HH.out⟩
set_option maxHeartbeats 2000000 in
theorem spoil_by {w : World} {p k d j : Nat} {x : Int} {m : BitVec 8} {R : Int → World → Prop}
    (h27 : Calls Try.prog 27 #[.pointer (some ⟨p, 0, none⟩), .int .i64 k, .int .i64 d, .int .i64 j, .bool false, .func (.func 36) #[] #[.pointer (some ⟨w.heap.size, 0, none⟩), .pointer (some ⟨w.heap.size + 1, 0, none⟩)]] ((w.alloc (.cells #[.int .i64 x] 3)).alloc (.cells #[.int .u8 (ub m)] 5)) fun e w' => ∃ er : Int, e = .returned (.int .i64 er) ∧ R er w') :
    Calls Try.prog 17 #[.pointer (some ⟨p, 0, none⟩), .int .i64 k, .int .i64 d, .int .i64 j, .int .i64 x, .int .u8 (ub m)] w fun e w' => ∃ er : Int, e = .returned (.int .i64 er) ∧ R er w' := by
  have HP := hid h27
  clear h27
  go_enter Try.func17, Try.ntmps17
  go_wp2_with (go_at_call 27; refine Calls.mono HP.out ?_; rintro e w1 ⟨er, rfl, hh⟩; have HH := hid hh; clear hh)
  go_ret
  exact ⟨er, rfl, HH.out⟩
/-- A net of one path that holds one frame, in direction 0: as it was put, and what is turned of it. -/
structure HAt (B : Nat) (w : World) (p g q K : Nat) (bs : List (BitVec 8)) (T : Nat → BitVec 8) (c : List Value) (v mv : Value) (gb : Nat) : Prop where
  net : Row w p [.slice (some ⟨g, 0, none⟩) 1 1] 52
  row : Row w g c 67
  bp : B ≤ p
  bg : B ≤ g
  hup : c[0]? = some (.bool true)
  htak : ∃ CT, c[8]? = some (.int .u64 CT)
  hbag : c[14]? = some v
  bag : BagAt w v [q]
  bb : ∀ x ∈ blk v, B ≤ x
  bq : B ≤ q
  bm : ∀ x ∈ mblk mv, B ≤ x
  pr : Row w q [.slice (some ⟨gb, 0, none⟩) bs.length bs.length, mv] 84
  pb : Row w gb (bcells bs) 5
  tu : TurnAt w mv bs.length K T
  fl : bs.length ≤ 140737488351232
def NetH (B : Nat) (w : World) (p g K : Nat) (bs : List (BitVec 8)) (T : Nat → BitVec 8) : Prop := ∃ q c v mv gb, HAt B w p g q K bs T c v mv gb
section
variable {B : Nat} {w w' : World} {p g K : Nat} {bs : List (BitVec 8)} {T : Nat → BitVec 8}
theorem NetH.lt (h : NetH B w p g K bs T) : B ≤ w.heap.size := by
  obtain ⟨q, c, v, mv, gb, h⟩ := h
  exact Nat.le_of_lt (Nat.lt_of_le_of_lt h.bg h.row.lt)
theorem HAt.kept {q gb : Nat} {c : List Value} {v mv : Value} (h : HAt B w p g q K bs T c v mv gb) (hb : Below w.heap.size w w') : HAt B w' p g q K bs T c v mv gb :=
  { h with net := h.net.kept hb h.net.lt, row := h.row.kept hb h.row.lt, bag := h.bag.kept hb, pr := h.pr.kept hb h.pr.lt, pb := h.pb.kept hb h.pb.lt, tu := h.tu.kept hb }
theorem NetH.kept (h : NetH B w p g K bs T) (hb : Below w.heap.size w w') : NetH B w' p g K bs T := by
  obtain ⟨q, c, v, mv, gb, h⟩ := h
  exact ⟨q, c, v, mv, gb, h.kept hb⟩
/-- A row of bytes that is not the frame's own is written: nothing of the net turns. -/
theorem mblk_ne {mv : Value} {n : Nat} {x : Nat} {cc : List Value} {t : TypeId} (h : TurnAt w mv n K T) (r : Row w x cc t) : x ∉ mblk mv := fun hx => by
  rcases h with ⟨rfl, _⟩ | ⟨b, k, D, rfl, ho, _⟩
  · cases hx
  · have : x = b := by simpa [mblk] using hx
    subst this
    exact own_ne ho r rfl
theorem HAt.setByte {q gb a : Nat} {cc c : List Value} {v mv : Value} (h : HAt B w p g q K bs T c v mv gb) (r : Row w a cc 5) (hne : gb ≠ a) (i : Nat) (x : Value) : HAt B (w.setCell ⟨a, i, none⟩ x) p g q K bs T c v mv gb := by
  have ho : Only [a] w (w.setCell ⟨a, i, none⟩ x) := (Only.refl [a] w).setCell a i x (.inl (by simp))
  refine { h with net := h.net.setOther _ (h.net.ne r (by decide)) _, row := h.row.setOther _ (h.row.ne r (by decide)) _, pr := h.pr.setOther _ (h.pr.ne r (by decide)) _, pb := h.pb.setOther _ hne _, bag := h.bag.only ho (fun y hy => ?_), tu := ?_ }
  · obtain ⟨c', R'⟩ := h.bag.blkRow y hy
    simpa using R'.ne r (by decide)
  · rcases h.tu with h1 | ⟨b, k, D, e, hm, hk, hI⟩
    · exact .inl h1
    · exact .inr ⟨b, k, D, e, own_only hm ho (by simpa using own_ne hm r), hk, hI⟩
theorem HAt.spoil {q gb : Nat} {c : List Value} {v mv : Value} (h : HAt B w p g q K bs T c v mv gb) {j : Nat} (hj : j < bs.length) (hK : K < 281474976710656) (m : BitVec 8) :
    Calls Try.prog 17 #[.pointer (some ⟨p, 0, none⟩), .int .i64 0, .int .i64 0, .int .i64 0, .int .i64 j, .int .u8 (ub m)] w fun e w' => ∃ er : Int, e = .returned (.int .i64 er) ∧ er = 0 ∧ (∃ mv', HAt B w' p g q (K + 1) bs (turnT T j m) c v mv' gb) ∧ Only (q :: mblk mv) w w' := by
  have hb := below_grow (below_grow (Below.refl w.heap.size w) (.cells #[.int .i64 (j : Int)] 3)) (.cells #[.int .u8 (ub m)] 5)
  have h' := h.kept hb
  have r1 : Row ((w.alloc (.cells #[.int .i64 (j : Int)] 3)).alloc (.cells #[.int .u8 (ub m)] 5)) w.heap.size [.int .i64 (j : Int)] 3 := (Row.new' _ _ _ _ _ rfl rfl).alloc _
  have r2 : Row ((w.alloc (.cells #[.int .i64 (j : Int)] 3)).alloc (.cells #[.int .u8 (ub m)] 5)) (w.heap.size + 1) [.int .u8 (ub m)] 5 := Row.new' _ _ _ _ _ (by simp) rfl
  refine spoil_by (k := 0) (d := 0) (j := 0) (find_sp (k := 0) h'.net h'.row (by decide) (by decide) h'.hbag h'.bag rfl ((spoil1_ok h'.pr h'.pb h'.tu hj h.fl hK r1 r2).mono ?_))
  rintro e w' ⟨rfl, ho, mv', s1, s2, s3, s4⟩
  have ho2 : Only (q :: mblk mv) w w' := (Only.of_below (S := q :: mblk mv) hb (Nat.le_refl _)).trans ho (fun x hx => .inl hx)
  refine ⟨0, rfl, rfl, ⟨mv', ?_⟩, ho2⟩
  have hf : ∀ {x : Nat} {cc : List Value} {t : TypeId}, Row w x cc t → t ≠ 84 → Row w' x cc t := fun r nt => ho2.row r (fun hm => by
    rcases List.mem_cons.1 hm with e | hm
    · subst e; exact nt (r.type h.pr)
    · exact mblk_ne h.tu r hm)
  exact { h with net := hf h.net (by decide), row := hf h.row (by decide), pb := hf h.pb (by decide), tu := s3
                 pr := s1
                 bag := h.bag.only ho2 (fun x hx hm => by
                   obtain ⟨c', R'⟩ := h.bag.blkRow x hx
                   rcases List.mem_cons.1 hm with e | hm
                   · subst e; exact absurd (R'.type h.pr) (by decide)
                   · exact mblk_ne h.tu R' hm)
                 bm := fun x hx => by
                   rcases s4 x hx with h1 | h1
                   · exact h.bm x h1
                   · exact Nat.le_trans (Nat.le_of_lt (Nat.lt_of_le_of_lt h.bg h.row.lt)) (Nat.le_trans hb.size h1) }
theorem HAt.spoilBad {q gb : Nat} {c : List Value} {v mv : Value} (h : HAt B w p g q K bs T c v mv gb) {x : Int} (hx : x < 0 ∨ (bs.length : Int) ≤ x) (m : BitVec 8) :
    Calls Try.prog 17 #[.pointer (some ⟨p, 0, none⟩), .int .i64 0, .int .i64 0, .int .i64 0, .int .i64 x, .int .u8 (ub m)] w fun e w' => ∃ er : Int, e = .returned (.int .i64 er) ∧ er = 46 ∧ Below w.heap.size w w' := by
  have hb := below_grow (below_grow (Below.refl w.heap.size w) (.cells #[.int .i64 x] 3)) (.cells #[.int .u8 (ub m)] 5)
  have h' := h.kept hb
  have r1 : Row ((w.alloc (.cells #[.int .i64 x] 3)).alloc (.cells #[.int .u8 (ub m)] 5)) w.heap.size [.int .i64 x] 3 := (Row.new' _ _ _ _ _ rfl rfl).alloc _
  refine spoil_by (k := 0) (d := 0) (j := 0) (find_sp (k := 0) h'.net h'.row (by decide) (by decide) h'.hbag h'.bag rfl ((spoil1_bad h'.pr hx r1).mono ?_))
  rintro e w' ⟨rfl, hb2⟩
  exact ⟨46, rfl, rfl, hb.trans (hb2.mono hb.size)⟩
theorem NetH.peek (h : NetH B w p g K bs T) :
    Calls Try.prog 12 #[.pointer (some ⟨p, 0, none⟩), .int .i64 0, .int .i64 0, .int .i64 0] w fun e w' => ∃ g', e = .returned (.tuple #[.agg #[.slice (some ⟨g', 0, none⟩) bs.length bs.length, .bool (sp T bs.length)], .int .i64 0]) ∧ w.heap.size ≤ g' ∧ Row w' g' (bcells (xorT bs T)) 5 ∧ Below w.heap.size w w' := by
  obtain ⟨q, c, v, mv, gb, h⟩ := h
  exact peek_sp (k := 0) (j := 0) (qs := [q]) h.net h.row (by decide) (by decide) h.hbag h.bag (by simp) ⟨gb, mv, h.pr, h.pb, h.tu⟩ h.fl
theorem NetH.take (h : NetH B w p g K bs T) :
    Calls Try.prog 13 #[.pointer (some ⟨p, 0, none⟩), .int .i64 0, .int .i64 0, .int .i64 0] w fun e w' => ∃ g', e = .returned (.tuple #[.agg #[.slice (some ⟨g', 0, none⟩) bs.length bs.length, .bool (sp T bs.length)], .int .i64 0]) ∧ w.heap.size ≤ g' ∧ Row w' g' (bcells (xorT bs T)) 5 ∧ Below B w w' := by
  obtain ⟨q, c, v, mv, gb, h⟩ := h
  obtain ⟨CT, hT⟩ := h.htak
  refine (take_sp (k := 0) (j := 0) (qs := [q]) h.net h.row (by decide) (by decide) h.hup h.hbag hT h.bag (by simp) (by simp) ⟨gb, mv, h.pr, h.pb, h.tu⟩ h.fl).mono ?_
  rintro e w' ⟨g', rfl, hg, hr, ho, _⟩
  exact ⟨g', rfl, hg, hr, ho.below (Nat.le_of_lt (Nat.lt_of_le_of_lt h.bg h.row.lt)) (fun x hx => by
    rcases List.mem_cons.1 hx with rfl | hx
    · exact h.bg
    · exact h.bb x hx)⟩
end
end Go.Proofs.Ytjnmfedefmemnaa
