import Derived.Test.YtjnmfedefmemnaaDark0
namespace Go.Proofs.Ytjnmfedefmemnaa
open Go.RowKit
set_option maxRecDepth 100000

section
variable {B : Nat} {w w' : World} {p g n k d k' : Nat} {up : Bool} {C L : Int} {c c' : List Value} {v v0 : Value} {qs : List Nat} {fs : List (List (BitVec 8))}
/-- What is done on one path leaves another one as it is. -/
theorem Lane.other (h : Lane B w p g n k' d up C L c v qs fs) (hs : ∀ i, k' * 16 ≤ i → i < k' * 16 + 16 → c'[i]? = c[i]?) (R : Row w' g c' 67) (hlen : c'.length = 16 * n) (hone : ∀ v ∈ c', v.oneCell' = true) (hK : Keeps B w w') (ho : Only (g :: blk v0) w w') (hty : ∀ x ∈ g :: blk v0, ∃ cc t, Row w x cc t ∧ (t = 67 ∨ t = 73)) (hdis : ∀ x ∈ blk v, x ∉ blk v0) : Lane B w' p g n k' d up C L c' v qs fs := by
  have hd := h.hd
  have e2 : ∀ i {u : Value}, c[i]? = some u → k' * 16 ≤ i → i < k' * 16 + 16 → c'[i]? = some u := fun i u hu h1 h2 => by rw [hs i h1 h2]; exact hu
  obtain ⟨P, hP⟩ := h.hput
  obtain ⟨T, hT⟩ := h.htak
  obtain ⟨T2, hT2⟩ := h.htwi
  exact
    { net := hK.row h.net (by decide) (by decide), row := R, len := hlen, one := hone, bp := h.bp, bg := h.bg, hk := h.hk, hd := h.hd
      hup := e2 _ h.hup (by omega) (by omega), hcap := e2 _ h.hcap (by omega) (by omega), hput := ⟨P, e2 _ hP (by omega) (by omega)⟩, hlost := e2 _ h.hlost (by omega) (by omega)
      htak := ⟨T, e2 _ hT (by omega) (by omega)⟩, htwi := ⟨T2, e2 _ hT2 (by omega) (by omega)⟩, hbag := e2 _ h.hbag (by omega) (by omega)
      bag := h.bag.only ho (fun x hx hm => by
        rcases List.mem_cons.1 hm with rfl | hm
        · obtain ⟨c2, R2⟩ := h.bag.blkRow _ hx
          exact absurd (R2.type h.row) (by decide)
        · exact hdis x hx hm)
      bb := h.bb, cap30 := h.cap30, room := h.room, cnt := h.cnt
      pk := fun j q f h1 h2 => (h.pk j q f h1 h2).ofRow ho hty
      fl := h.fl }
end
theorem same_other {k d k' : Nat} {c c' : List Value} (h : SameBut k d c c') (hne : k ≠ k') : ∀ i, k' * 16 ≤ i → i < k' * 16 + 16 → c'[i]? = c[i]? := fun i h1 h2 => h i (by omega)

/-- A net of two paths, in whose direction d these frames lie. -/
def NetD (B : Nat) (w : World) (p g d : Nat) (up : Bool) (L : Int) (fs0 fs1 : List (List (BitVec 8))) : Prop :=
  ∃ c v0 q0 v1 q1, Lane B w p g 2 0 d up 1073741824 L c v0 q0 fs0 ∧ Lane B w p g 2 1 d true 1073741824 0 c v1 q1 fs1 ∧ (∀ x ∈ blk v0, x ∉ blk v1) ∧ c[15 - d]? = some (.slice none 0 0)
section
variable {B : Nat} {w w' : World} {p g d : Nat} {up : Bool} {L : Int} {fs0 fs1 : List (List (BitVec 8))}
theorem NetD.lt (h : NetD B w p g d up L fs0 fs1) : B ≤ w.heap.size := by
  obtain ⟨c, v0, q0, v1, q1, h0, _⟩ := h
  exact h0.lt
theorem NetD.kept (h : NetD B w p g d up L fs0 fs1) (hb : Below w.heap.size w w') : NetD B w' p g d up L fs0 fs1 := by
  obtain ⟨c, v0, q0, v1, q1, h0, h1, h2⟩ := h
  exact ⟨c, v0, q0, v1, q1, h0.kept hb, h1.kept hb, h2⟩
theorem disj_symm {a b : List Nat} (h : ∀ x ∈ a, x ∉ b) : ∀ x ∈ b, x ∉ a := fun x hx hm => h x hm hx
theorem disj_new {w : World} {a a' b : List Nat} (h : ∀ x ∈ a, x ∉ b) (hn : ∀ x ∈ a', x ∈ a ∨ w.heap.size ≤ x) (hb : ∀ x ∈ b, x < w.heap.size) : ∀ x ∈ a', x ∉ b := fun x hx hm => by
  rcases hn x hx with h1 | h1
  · exact h x h1 hm
  · have := hb x hm; omega
theorem bag_lt {w : World} {v : Value} {qs : List Nat} (h : BagAt w v qs) : ∀ x ∈ blk v, x < w.heap.size := fun x hx => by
  obtain ⟨c, R⟩ := h.blkRow x hx
  exact R.lt
theorem NetD.put0 (h : NetD B w p g d true L fs0 fs1) (hlt : (fs0.length : Int) < 1073741824) {a : Option Addr} {m cap : Nat} {bs : List (BitVec 8)} (hF : BytesAt w a bs) (hm : bs.length = m) (hm2 : m ≤ 140737488355328) :
    Calls Try.prog 10 #[.pointer (some ⟨p, 0, none⟩), .int .i64 0, .int .i64 d, .slice a m cap] w fun e w' => e = .returned (.tuple #[.bool true, .int .i64 0]) ∧ NetD B w' p g d true L (fs0 ++ [bs]) fs1 ∧ Keeps B w w' := by
  obtain ⟨c, v0, q0, v1, q1, h0, h1, h2, h3⟩ := h
  refine (h0.put (cap := cap) hlt hF hm hm2).mono ?_
  rintro e w' ⟨rfl, c', v', qs', hl, hs, ho, hx⟩
  have hd := h0.hd
  exact ⟨rfl, ⟨c', v', qs', v1, q1, hl, h1.other (same_other hs (by decide)) hl.row hl.len hl.one (h0.keeps ho) ho h0.types (disj_symm h2), disj_new h2 hx (bag_lt h1.bag), by rw [hs _ (by omega)]; exact h3⟩, h0.keeps ho⟩
theorem NetD.put1 (h : NetD B w p g d up L fs0 fs1) (hlt : (fs1.length : Int) < 1073741824) {a : Option Addr} {m cap : Nat} {bs : List (BitVec 8)} (hF : BytesAt w a bs) (hm : bs.length = m) (hm2 : m ≤ 140737488355328) :
    Calls Try.prog 10 #[.pointer (some ⟨p, 0, none⟩), .int .i64 1, .int .i64 d, .slice a m cap] w fun e w' => e = .returned (.tuple #[.bool true, .int .i64 0]) ∧ NetD B w' p g d up L fs0 (fs1 ++ [bs]) ∧ Keeps B w w' := by
  obtain ⟨c, v0, q0, v1, q1, h0, h1, h2, h3⟩ := h
  refine (h1.put (cap := cap) hlt hF hm hm2).mono ?_
  rintro e w' ⟨rfl, c', v', qs', hl, hs, ho, hx⟩
  have hd := h0.hd
  exact ⟨rfl, ⟨c', v0, q0, v', qs', h0.other (same_other hs (by decide)) hl.row hl.len hl.one (h1.keeps ho) ho h1.types h2, hl, disj_symm (disj_new (disj_symm h2) hx (bag_lt h0.bag)), by rw [hs _ (by omega)]; exact h3⟩, h1.keeps ho⟩
theorem NetD.lost0 (h : NetD B w p g d false L fs0 fs1) (hL0 : 0 ≤ L) (hL1 : L ≤ 1000000000000000) (fr : Value) :
    Calls Try.prog 10 #[.pointer (some ⟨p, 0, none⟩), .int .i64 0, .int .i64 d, fr] w fun e w' => e = .returned (.tuple #[.bool false, .int .i64 0]) ∧ NetD B w' p g d false (L + 1) fs0 fs1 ∧ Keeps B w w' := by
  obtain ⟨c, v0, q0, v1, q1, h0, h1, h2, h3⟩ := h
  refine (h0.lost (.inl rfl) hL0 hL1 fr).mono ?_
  rintro e w' ⟨rfl, c', hl, hs, ho⟩
  have hd := h0.hd
  have ho' : Only (g :: blk v0) w w' := ho.wider (fun x hx => by simp at hx; simp [hx])
  exact ⟨rfl, ⟨c', v0, q0, v1, q1, hl, h1.other (same_other hs (by decide)) hl.row hl.len hl.one (h0.keeps ho') ho' h0.types (disj_symm h2), h2, by rw [hs _ (by omega)]; exact h3⟩, h0.keeps ho'⟩
theorem NetD.take0 {f : List (BitVec 8)} (h : NetD B w p g d true L (f :: fs0) fs1) :
    Calls Try.prog 13 #[.pointer (some ⟨p, 0, none⟩), .int .i64 0, .int .i64 d, .int .i64 0] w fun e w' => ∃ g', e = .returned (.tuple #[.agg #[.slice (some ⟨g', 0, none⟩) f.length f.length, .bool false], .int .i64 0]) ∧ Row w' g' (bcells f) 5 ∧ NetD B w' p g d true L fs0 fs1 ∧ Keeps B w w' := by
  obtain ⟨c, v0, q0, v1, q1, h0, h1, h2, h3⟩ := h
  refine (h0.take (j := 0) (by simp)).mono ?_
  rintro e w' ⟨g', rfl, hg, hr, c', v', qs', hl, hs, ho, hx⟩
  have hd := h0.hd
  exact ⟨g', rfl, hr, ⟨c', v', qs', v1, q1, hl, h1.other (same_other hs (by decide)) hl.row hl.len hl.one (h0.keeps ho) ho h0.types (disj_symm h2), disj_new h2 hx (bag_lt h1.bag), by rw [hs _ (by omega)]; exact h3⟩, h0.keeps ho⟩
theorem NetD.take1 {f : List (BitVec 8)} (h : NetD B w p g d up L fs0 (f :: fs1)) :
    Calls Try.prog 13 #[.pointer (some ⟨p, 0, none⟩), .int .i64 1, .int .i64 d, .int .i64 0] w fun e w' => ∃ g', e = .returned (.tuple #[.agg #[.slice (some ⟨g', 0, none⟩) f.length f.length, .bool false], .int .i64 0]) ∧ Row w' g' (bcells f) 5 ∧ NetD B w' p g d up L fs0 fs1 ∧ Keeps B w w' := by
  obtain ⟨c, v0, q0, v1, q1, h0, h1, h2, h3⟩ := h
  refine (h1.take (j := 0) (by simp)).mono ?_
  rintro e w' ⟨g', rfl, hg, hr, c', v', qs', hl, hs, ho, hx⟩
  have hd := h0.hd
  exact ⟨g', rfl, hr, ⟨c', v0, q0, v', qs', h0.other (same_other hs (by decide)) hl.row hl.len hl.one (h1.keeps ho) ho h1.types h2, hl, disj_symm (disj_new (disj_symm h2) hx (bag_lt h0.bag)), by rw [hs _ (by omega)]; exact h3⟩, h1.keeps ho⟩
theorem NetD.set (h : NetD B w p g d up L fs0 fs1) (nu : Bool) :
    Calls Try.prog 18 #[.pointer (some ⟨p, 0, none⟩), .int .i64 0, .bool nu] w fun e w' => e = .returned (.int .i64 0) ∧ NetD B w' p g d nu L fs0 fs1 ∧ Keeps B w w' := by
  obtain ⟨c, v0, q0, v1, q1, h0, h1, h2, h3⟩ := h
  refine (set_in nu h0.net h0.row h0.hk h0.hup).mono ?_
  rintro e w' ⟨rfl, hr, ho⟩
  have hd := h0.hd
  have ho' : Only (g :: blk v0) w w' := ho.wider (fun x hx => by simp at hx; simp [hx])
  have hK := h0.keeps ho'
  have hone := one_set h0.one (0 * 16) (x := .bool nu) rfl
  have hin : 0 * 16 < c.length := (List.getElem?_eq_some_iff.1 h0.hup).1
  obtain ⟨P, hP⟩ := h0.hput
  obtain ⟨T, hT⟩ := h0.htak
  obtain ⟨T2, hT2⟩ := h0.htwi
  refine ⟨rfl, ⟨_, v0, q0, v1, q1, ?_, h1.other (fun i hi1 hi2 => by rw [List.getElem?_set_ne (by omega)]) hr (by simp [h0.len]) hone hK ho' h0.types (disj_symm h2), h2, set_at h3 (by omega)⟩, hK⟩
  exact
    { net := hK.row h0.net (by decide) (by decide), row := hr, len := by simp [h0.len], one := hone, bp := h0.bp, bg := h0.bg, hk := h0.hk, hd := h0.hd
      hup := by rw [List.getElem?_set_self hin]
      hcap := set_at h0.hcap (by omega), hput := ⟨P, set_at hP (by omega)⟩, hlost := set_at h0.hlost (by omega), htak := ⟨T, set_at hT (by omega)⟩, htwi := ⟨T2, set_at hT2 (by omega)⟩, hbag := set_at h0.hbag (by omega)
      bag := h0.bag.only ho (fun x hx hm => by
        obtain ⟨c2, R2⟩ := h0.bag.blkRow x hx
        have : x = g := by simpa using hm
        subst this
        exact absurd (R2.type h0.row) (by decide))
      bb := h0.bb, cap30 := h0.cap30, room := h0.room, cnt := h0.cnt
      pk := fun j q f h1 h2 => h0.pkOnly ho' (h0.pk j q f h1 h2)
      fl := h0.fl }
theorem NetD.takeDown (h : NetD B w p g d false L fs0 fs1) (j : Int) :
    Calls Try.prog 13 #[.pointer (some ⟨p, 0, none⟩), .int .i64 0, .int .i64 d, .int .i64 j] w fun e w' => e = .returned (.tuple #[.agg #[.slice none 0 0, .bool false], .int .i64 44]) ∧ Below w.heap.size w w' := by
  obtain ⟨c, v0, q0, v1, q1, h0, h1, h2, h3⟩ := h
  exact take_err (k := 0) j 44 (fun w' f hb => find_down j f (h0.net.kept hb h0.net.lt) (h0.row.kept hb h0.row.lt) h0.hk h0.hd h0.hup)
theorem NetD.doubleDown (h : NetD B w p g d false L fs0 fs1) (j : Int) :
    Calls Try.prog 11 #[.pointer (some ⟨p, 0, none⟩), .int .i64 0, .int .i64 d, .int .i64 j] w fun e w' => e = .returned (.tuple #[.bool false, .int .i64 44]) ∧ Below w.heap.size w w' := by
  obtain ⟨c, v0, q0, v1, q1, h0, h1, h2, h3⟩ := h
  exact double_err (k := 0) j 44 (fun w' f hb => find_down j f (h0.net.kept hb h0.net.lt) (h0.row.kept hb h0.row.lt) h0.hk h0.hd h0.hup)
theorem NetD.takeNone (h : NetD B w p g d true L [] fs1) :
    Calls Try.prog 13 #[.pointer (some ⟨p, 0, none⟩), .int .i64 0, .int .i64 d, .int .i64 0] w fun e w' => e = .returned (.tuple #[.agg #[.slice none 0 0, .bool false], .int .i64 45]) ∧ Below w.heap.size w w' := by
  obtain ⟨c, v0, q0, v1, q1, h0, h1, h2, h3⟩ := h
  have hq : q0 = [] := List.length_eq_zero_iff.1 h0.cnt
  subst hq
  exact take_err (k := 0) 0 45 (fun w' f hb => find_none f (h0.net.kept hb h0.net.lt) (h0.row.kept hb h0.row.lt) h0.hk h0.hd h0.hup h0.hbag (h0.bag.kept hb))
theorem NetD.look (h : NetD B w p g d up L fs0 fs1) :
    Calls Try.prog 15 #[.pointer (some ⟨p, 0, none⟩), .int .i64 0] w fun e w' => ∃ cv : List Value, e = .returned (.tuple #[.agg cv.toArray, .int .i64 0]) ∧ cv.length = 14 ∧ (∀ v ∈ cv, v.oneCell' = true) ∧ cv[6 + d]? = some (.int .u64 L) ∧ Below w.heap.size w w' := by
  obtain ⟨c, v0, q0, v1, q1, h, h1, h2, e⟩ := h
  have hd := h.hd
  have hl16 : c.length = 32 := h.len
  obtain ⟨a, cap, rfl⟩ := h.bag.shape
  have hbag := h.hbag
  have hone : ∀ (n0 n1 : Nat), ∀ v ∈ (((c.drop 0).take 14).set 2 (.int .i64 n0)).set 3 (.int .i64 n1), v.oneCell' = true := fun n0 n1 => one_set (one_set (fun v hv => h.one v (List.mem_of_mem_drop (List.mem_of_mem_take hv))) _ rfl) _ rfl
  have hlen : ∀ (n0 n1 : Nat), ((((c.drop 0).take 14).set 2 (.int .i64 (n0 : Int))).set 3 (.int .i64 (n1 : Int))).length = 14 := fun n0 n1 => by simp; omega
  have hlo : ∀ (n0 n1 : Nat), ((((c.drop 0).take 14).set 2 (.int .i64 (n0 : Int))).set 3 (.int .i64 (n1 : Int)))[6 + d]? = some (.int .u64 L) := fun n0 n1 => by
    rw [List.getElem?_set_ne (by omega), List.getElem?_set_ne (by omega), List.getElem?_take_of_lt (by omega), List.drop_zero]
    have := h.hlost
    rwa [show 0 * 16 + 6 + d = 6 + d by omega] at this
  have hd' : d = 0 ∨ d = 1 := by omega
  rcases hd' with rfl | rfl
  · refine (look_in (k := 0) (n0 := q0.length) (n1 := 0) h.net h.row (by decide) (by rw [hl16]; decide) hbag e h.one).mono ?_
    rintro e w' ⟨rfl, hb⟩
    exact ⟨_, rfl, hlen _ _, hone _ _, hlo _ _, hb⟩
  · refine (look_in (k := 0) (n0 := 0) (n1 := q0.length) h.net h.row (by decide) (by rw [hl16]; decide) e hbag h.one).mono ?_
    rintro e w' ⟨rfl, hb⟩
    exact ⟨_, rfl, hlen _ _, hone _ _, hlo _ _, hb⟩
theorem NetD.new (hB : B ≤ w.heap.size) {q : Nat} (h1 : w.heap.size ≤ q) (h2 : q < p) (R : Row w' q (roadv 1073741824 ++ roadv 1073741824) 67) (N : Row w' p [.slice (some ⟨q, 0, none⟩) 2 2] 52) (hd : d < 2) : NetD B w' p q d true 0 [] [] := by
  have hd' : d = 0 ∨ d = 1 := by omega
  have hone : ∀ v ∈ roadv 1073741824 ++ roadv 1073741824, v.oneCell' = true := fun v hv => (List.mem_append.1 hv).elim (roadv_one _ v) (roadv_one _ v)
  refine ⟨roadv 1073741824 ++ roadv 1073741824, .slice none 0 0, [], .slice none 0 0, [], ?_, ?_, (fun x hx => by cases hx), by rcases hd' with rfl | rfl <;> rfl⟩
  · exact
      { net := N, row := R, len := rfl, one := hone, bp := (by omega), bg := (by omega), hk := (by decide), hd := hd, hup := rfl, hcap := rfl
        hput := ⟨0, by rcases hd' with rfl | rfl <;> rfl⟩, hlost := (by rcases hd' with rfl | rfl <;> rfl), htak := ⟨0, by rcases hd' with rfl | rfl <;> rfl⟩, htwi := ⟨0, by rcases hd' with rfl | rfl <;> rfl⟩
        hbag := (by rcases hd' with rfl | rfl <;> rfl)
        bag := .inl ⟨rfl, rfl⟩, bb := (fun x hx => by cases hx), cap30 := (by decide), room := (by decide), cnt := rfl, pk := (fun j q f h => by simp at h), fl := (fun f hf => by cases hf) }
  · exact
      { net := N, row := R, len := rfl, one := hone, bp := (by omega), bg := (by omega), hk := (by decide), hd := hd, hup := rfl, hcap := rfl
        hput := ⟨0, by rcases hd' with rfl | rfl <;> rfl⟩, hlost := (by rcases hd' with rfl | rfl <;> rfl), htak := ⟨0, by rcases hd' with rfl | rfl <;> rfl⟩, htwi := ⟨0, by rcases hd' with rfl | rfl <;> rfl⟩
        hbag := (by rcases hd' with rfl | rfl <;> rfl)
        bag := .inl ⟨rfl, rfl⟩, bb := (fun x hx => by cases hx), cap30 := (by decide), room := (by decide), cnt := rfl, pk := (fun j q f h => by simp at h), fl := (fun f hf => by cases hf) }
end
end Go.Proofs.Ytjnmfedefmemnaa
