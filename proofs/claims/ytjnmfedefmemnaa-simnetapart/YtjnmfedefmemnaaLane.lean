import Derived.Test.YtjnmfedefmemnaaLook
namespace Go.Proofs.Ytjnmfedefmemnaa
open Go.RowKit
set_option maxRecDepth 100000

/-- One direction d of path k of a net, none of whose frames is spoilt: up, how many it holds, how many were lost, its frames. -/
structure Lane (B : Nat) (w : World) (p g n k d : Nat) (up : Bool) (C L : Int) (c : List Value) (v : Value) (qs : List Nat) (fs : List (List (BitVec 8))) : Prop where
  net : Row w p [.slice (some ⟨g, 0, none⟩) n n] 52
  row : Row w g c 67
  len : c.length = 16 * n
  one : ∀ v ∈ c, v.oneCell' = true
  bp : B ≤ p
  bg : B ≤ g
  hk : k < n
  hd : d < 2
  hup : c[k * 16]? = some (.bool up)
  hcap : c[k * 16 + 1]? = some (.int .i64 C)
  hput : ∃ P, c[k * 16 + 4 + d]? = some (.int .u64 P)
  hlost : c[k * 16 + 6 + d]? = some (.int .u64 L)
  htak : ∃ T, c[k * 16 + 8 + d]? = some (.int .u64 T)
  htwi : ∃ T, c[k * 16 + 12 + d]? = some (.int .u64 T)
  hbag : c[k * 16 + 14 + d]? = some v
  bag : BagAt w v qs
  bb : ∀ x ∈ blk v, B ≤ x
  cap30 : C ≤ 1073741824
  room : (qs.length : Int) ≤ C
  cnt : qs.length = fs.length
  pk : ∀ (j q : Nat) (f : List (BitVec 8)), qs[j]? = some q → fs[j]? = some f → PAt w q f
  fl : ∀ f ∈ fs, f.length ≤ 140737488355328
/-- Outside what belongs to direction d of path k the cells are the same. -/
def SameBut (k d : Nat) (c c' : List Value) : Prop := ∀ i, ¬ (k * 16 + 4 ≤ i ∧ i < k * 16 + 16 ∧ (i + d) % 2 = 0) → c'[i]? = c[i]?
theorem SameBut.refl (k d : Nat) (c : List Value) : SameBut k d c c := fun _ _ => rfl
theorem SameBut.set {k d : Nat} {c c' : List Value} (h : SameBut k d c c') (i : Nat) (hi : k * 16 + 4 ≤ i ∧ i < k * 16 + 16 ∧ (i + d) % 2 = 0) (x : Value) : SameBut k d c (c'.set i x) := fun j hj => by
  rw [List.getElem?_set_ne (show i ≠ j from fun e => hj (by rw [← e]; exact hi))]
  exact h j hj
theorem one_set {c : List Value} (h : ∀ v ∈ c, v.oneCell' = true) (i : Nat) {x : Value} (hx : x.oneCell' = true) : ∀ v ∈ c.set i x, v.oneCell' = true := fun v hv => by
  rcases List.mem_or_eq_of_mem_set hv with hv | rfl
  · exact h v hv
  · exact hx
theorem blk_one {w : World} {v : Value} {qs : List Nat} (h : BagAt w v qs) : v.oneCell' = true := by
  obtain ⟨a, cap, rfl⟩ := h.shape
  rfl
/-- All that is neither the paths' block nor a bag stays; below B all stays. -/
structure Keeps (B : Nat) (w w' : World) : Prop where
  below : Below B w w'
  size : w.heap.size ≤ w'.heap.size
  row : ∀ {x : Nat} {cc : List Value} {t : TypeId}, Row w x cc t → t ≠ 67 → t ≠ 73 → Row w' x cc t
theorem Keeps.refl (B : Nat) (w : World) : Keeps B w w := ⟨Below.refl _ _, Nat.le_refl _, fun h _ _ => h⟩
theorem Keeps.trans {B : Nat} {w w' w'' : World} (h : Keeps B w w') (k : Keeps B w' w'') : Keeps B w w'' := ⟨h.below.trans k.below, Nat.le_trans h.size k.size, fun r n1 n2 => k.row (h.row r n1 n2) n1 n2⟩
theorem Keeps.of_below {B : Nat} {w w' : World} (h : Below w.heap.size w w') (hB : B ≤ w.heap.size) : Keeps B w w' := ⟨h.mono hB, h.size, fun r _ _ => r.kept h r.lt⟩
section
variable {B : Nat} {w w' : World} {p g n k d : Nat} {up : Bool} {C L : Int} {c : List Value} {v : Value} {qs : List Nat} {fs : List (List (BitVec 8))}
theorem Lane.types (h : Lane B w p g n k d up C L c v qs fs) : ∀ x ∈ g :: blk v, ∃ cc t, Row w x cc t ∧ (t = 67 ∨ t = 73) := fun x hx => by
  rcases List.mem_cons.1 hx with rfl | hx
  · exact ⟨_, _, h.row, .inl rfl⟩
  · obtain ⟨c', R'⟩ := h.bag.blkRow x hx
    exact ⟨_, _, R', .inr rfl⟩
theorem Lane.lt (h : Lane B w p g n k d up C L c v qs fs) : B ≤ w.heap.size := Nat.le_of_lt (Nat.lt_of_le_of_lt h.bg h.row.lt)
theorem Lane.keeps (h : Lane B w p g n k d up C L c v qs fs) (ho : Only (g :: blk v) w w') : Keeps B w w' := by
  refine ⟨ho.below h.lt (fun x hx => ?_), ho.size, fun r n1 n2 => ho.row r fun hm => ?_⟩
  · rcases List.mem_cons.1 hx with rfl | hx
    · exact h.bg
    · exact h.bb x hx
  · obtain ⟨cc, t, r', e⟩ := h.types _ hm
    have := r.type r'
    rcases e with rfl | rfl
    · exact n1 this
    · exact n2 this
theorem Lane.kept (h : Lane B w p g n k d up C L c v qs fs) (hb : Below w.heap.size w w') : Lane B w' p g n k d up C L c v qs fs :=
  { h with net := h.net.kept hb h.net.lt, row := h.row.kept hb h.row.lt, bag := h.bag.kept hb, pk := fun j q f h1 h2 => (h.pk j q f h1 h2).kept hb }
theorem Lane.pkOnly (h : Lane B w p g n k d up C L c v qs fs) (ho : Only (g :: blk v) w w') {q : Nat} {f : List (BitVec 8)} (hp : PAt w q f) : PAt w' q f := hp.ofRow ho h.types
set_option maxHeartbeats 1000000 in
theorem Lane.put (h : Lane B w p g n k d true C L c v qs fs) (hlt : (fs.length : Int) < C) {a : Option Addr} {m cap : Nat} {bs : List (BitVec 8)} (hF : BytesAt w a bs) (hm : bs.length = m) (hm2 : m ≤ 140737488355328) :
    Calls Try.prog 10 #[.pointer (some ⟨p, 0, none⟩), .int .i64 k, .int .i64 d, .slice a m cap] w fun e w' => e = .returned (.tuple #[.bool true, .int .i64 0]) ∧ ∃ c' v' qs', Lane B w' p g n k d true C L c' v' qs' (fs ++ [bs]) ∧ SameBut k d c c' ∧ Only (g :: blk v) w w' ∧ (∀ x ∈ blk v', x ∈ blk v ∨ w.heap.size ≤ x) := by
  obtain ⟨P, hP⟩ := h.hput
  have hd := h.hd
  refine (put_in h.net h.row h.hk h.hd h.hup h.hcap hP h.hbag h.bag (by rw [h.cnt]; exact hlt) h.cap30 hF hm hm2).mono ?_
  rintro e w' ⟨rfl, v', q, P', hr, hbag, hq, hpa, ho, hx⟩
  refine ⟨rfl, (c.set (k * 16 + 4 + d) (.int .u64 P')).set (k * 16 + 14 + d) v', v', qs ++ [q], ?_, ((SameBut.refl k d c).set (k * 16 + 4 + d) (by omega) (.int .u64 P')).set (k * 16 + 14 + d) (by omega) v', ho, hx⟩
  have hk := h.keeps ho
  have e2 : ∀ i {u : Value}, c[i]? = some u → i ≠ k * 16 + 4 + d → i ≠ k * 16 + 14 + d → ((c.set (k * 16 + 4 + d) (.int .u64 P')).set (k * 16 + 14 + d) v')[i]? = some u := fun i u hu n1 n2 => set_at (set_at hu n1) n2
  have hin : k * 16 + 14 + d < c.length := (List.getElem?_eq_some_iff.1 h.hbag).1
  obtain ⟨T, hT⟩ := h.htak
  obtain ⟨T2, hT2⟩ := h.htwi
  exact
    { net := hk.row h.net (by decide) (by decide), row := hr, len := by simp [h.len], one := one_set (one_set h.one _ rfl) _ (blk_one hbag), bp := h.bp, bg := h.bg, hk := h.hk, hd := h.hd
      hup := e2 _ h.hup (by omega) (by omega), hcap := e2 _ h.hcap (by omega) (by omega)
      hput := ⟨P', set_at (by rw [List.getElem?_set_self (List.getElem?_eq_some_iff.1 hP).1]) (by omega)⟩
      hlost := e2 _ h.hlost (by omega) (by omega), htak := ⟨T, e2 _ hT (by omega) (by omega)⟩, htwi := ⟨T2, e2 _ hT2 (by omega) (by omega)⟩
      hbag := by rw [List.getElem?_set_self (by simpa using hin)]
      bag := hbag
      bb := fun x hxx => by
        rcases hx x hxx with h1 | h1
        · exact h.bb x h1
        · exact Nat.le_trans h.lt h1
      cap30 := h.cap30
      room := by rw [List.length_append, h.cnt]; simp; omega
      cnt := by simp [h.cnt]
      pk := fun j q' f h1 h2 => by
        by_cases hj : j < qs.length
        · rw [List.getElem?_append_left hj] at h1
          rw [List.getElem?_append_left (by rw [← h.cnt]; exact hj)] at h2
          exact h.pkOnly ho (h.pk j q' f h1 h2)
        · rw [List.getElem?_append_right (by omega)] at h1
          rw [List.getElem?_append_right (by rw [← h.cnt]; omega), ← h.cnt] at h2
          have : j - qs.length = 0 := by
            have := (List.getElem?_eq_some_iff.1 h1).1
            simp at this
            omega
          rw [this] at h1 h2
          simp at h1 h2
          subst h1
          subst h2
          exact hpa
      fl := fun f hf => by
        rcases List.mem_append.1 hf with hf | hf
        · exact h.fl f hf
        · simp at hf; subst hf; omega }
set_option maxHeartbeats 1000000 in
theorem Lane.take (h : Lane B w p g n k d true C L c v qs fs) {j : Nat} (hj : j < fs.length) :
    Calls Try.prog 13 #[.pointer (some ⟨p, 0, none⟩), .int .i64 k, .int .i64 d, .int .i64 j] w fun e w' => ∃ g', e = .returned (.tuple #[.agg #[.slice (some ⟨g', 0, none⟩) fs[j].length fs[j].length, .bool false], .int .i64 0]) ∧ w.heap.size ≤ g' ∧ Row w' g' (bcells fs[j]) 5 ∧ ∃ c' v' qs', Lane B w' p g n k d true C L c' v' qs' (fs.eraseIdx j) ∧ SameBut k d c c' ∧ Only (g :: blk v) w w' ∧ (∀ x ∈ blk v', x ∈ blk v ∨ w.heap.size ≤ x) := by
  obtain ⟨T, hT⟩ := h.htak
  have hd := h.hd
  have hjq : j < qs.length := by rw [h.cnt]; exact hj
  have hroom := h.room
  have h30 := h.cap30
  refine (take_in h.net h.row h.hk h.hd h.hup h.hbag hT h.bag (by omega) hjq (h.pk j _ _ (List.getElem?_eq_getElem hjq) (List.getElem?_eq_getElem hj)) (h.fl _ (List.getElem_mem hj))).mono ?_
  rintro e w' ⟨g', rfl, hg, hrb, ho, v', T', hr, hbag, hv⟩
  refine ⟨g', rfl, hg, hrb, (c.set (k * 16 + 14 + d) v').set (k * 16 + 8 + d) (.int .u64 T'), v', qs.eraseIdx j, ?_, ((SameBut.refl k d c).set (k * 16 + 14 + d) (by omega) v').set (k * 16 + 8 + d) (by omega) (.int .u64 T'), ho, fun x hx => .inl (hv ▸ hx)⟩
  have hk := h.keeps ho
  have e2 : ∀ i {u : Value}, c[i]? = some u → i ≠ k * 16 + 14 + d → i ≠ k * 16 + 8 + d → ((c.set (k * 16 + 14 + d) v').set (k * 16 + 8 + d) (.int .u64 T'))[i]? = some u := fun i u hu n1 n2 => set_at (set_at hu n1) n2
  have hin : k * 16 + 14 + d < c.length := (List.getElem?_eq_some_iff.1 h.hbag).1
  have hlen : (qs.eraseIdx j).length = qs.length - 1 := by rw [List.length_eraseIdx, if_pos hjq]
  obtain ⟨P, hP⟩ := h.hput
  obtain ⟨T2, hT2⟩ := h.htwi
  exact
    { net := hk.row h.net (by decide) (by decide), row := hr, len := by simp [h.len], one := one_set (one_set h.one _ (blk_one hbag)) _ rfl, bp := h.bp, bg := h.bg, hk := h.hk, hd := h.hd
      hup := e2 _ h.hup (by omega) (by omega), hcap := e2 _ h.hcap (by omega) (by omega)
      hput := ⟨P, e2 _ hP (by omega) (by omega)⟩
      hlost := e2 _ h.hlost (by omega) (by omega), htak := ⟨T', by rw [List.getElem?_set_self (by simp; omega)]⟩, htwi := ⟨T2, e2 _ hT2 (by omega) (by omega)⟩
      hbag := set_at (by rw [List.getElem?_set_self hin]) (by omega)
      bag := hbag
      bb := fun x hxx => h.bb x (hv ▸ hxx)
      cap30 := h.cap30
      room := by rw [hlen]; omega
      cnt := by rw [hlen, List.length_eraseIdx, if_pos hj, h.cnt]
      pk := fun i q' f h1 h2 => by
        rw [List.getElem?_eraseIdx] at h1 h2
        split at h1
        · rename_i hi
          rw [if_pos hi] at h2
          exact h.pkOnly ho (h.pk i q' f h1 h2)
        · rename_i hi
          rw [if_neg hi] at h2
          exact h.pkOnly ho (h.pk (i + 1) q' f h1 h2)
      fl := fun f hf => h.fl f (List.mem_of_mem_eraseIdx hf) }
theorem Lane.peek (h : Lane B w p g n k d up C L c v qs fs) {j : Nat} (hj : j < fs.length) :
    Calls Try.prog 12 #[.pointer (some ⟨p, 0, none⟩), .int .i64 k, .int .i64 d, .int .i64 j] w fun e w' => ∃ g', e = .returned (.tuple #[.agg #[.slice (some ⟨g', 0, none⟩) fs[j].length fs[j].length, .bool false], .int .i64 0]) ∧ w.heap.size ≤ g' ∧ Row w' g' (bcells fs[j]) 5 ∧ Below w.heap.size w w' := by
  have hjq : j < qs.length := by rw [h.cnt]; exact hj
  exact peek_in h.net h.row h.hk h.hd h.hbag h.bag hjq (h.pk j _ _ (List.getElem?_eq_getElem hjq) (List.getElem?_eq_getElem hj)) (h.fl _ (List.getElem_mem hj))
end
end Go.Proofs.Ytjnmfedefmemnaa
