import Derived.Test.YtjnmfedefmemnaaWhole4
import Derived.Test.YtjnmfedefmemnaaNew2
namespace Go.Proofs.Ytjnmfedefmemnaa
open Go.RowKit Go.Maps
set_option maxRecDepth 100000

section
variable {B : Nat} {w w' : World} {p g n K : Nat} {c c' : List Value} {vs : Nat → Nat → Value} {fr : Nat → Nat → List Fr} {k d : Nat}
/-- Only what the paths tell of themselves is written. -/
theorem NetG.tells (h : NetG B w p g n c vs fr K) (ho : Only [g] w w') (hr : Row w' g c' 67) (hl : c'.length = c.length) (h1 : ∀ v ∈ c', v.oneCell' = true) (hup : ∀ k, k < n → ∃ u, c'[k * 16]? = some (.bool u)) (hcap : ∀ k, k < n → c'[k * 16 + 1]? = c[k * 16 + 1]?) (hcnt : ∀ k i, k < n → 4 ≤ i → i < 14 → ∃ P, c'[k * 16 + i]? = some (.int .u64 P)) (hbag : ∀ k d, k < n → d < 2 → c'[k * 16 + 14 + d]? = c[k * 16 + 14 + d]?) :
    NetG B w' p g n c' vs fr K ∧ Stays w w' g n vs vs fr fr := by
  have hne : ∀ {y : Nat} {cc : List Value} {t : TypeId}, Row w y cc t → t ≠ 67 → y ∉ [g] := fun r nt hm => nt ((by simpa using hm : _ = g) ▸ r |>.type h.row)
  refine ⟨
    { h with
      net := ho.row h.net (hne h.net (by decide))
      row := hr
      len := by rw [hl, h.len]
      one := h1
      up := hup
      cap := fun k hk => by rw [hcap k hk]; exact h.cap k hk
      cnt := hcnt
      hbag := fun k d hk hd => by rw [hbag k d hk hd]; exact h.hbag k d hk hd
      bag := fun k d hk hd => (h.bag k d hk hd).only ho (fun y hy => by
        obtain ⟨c', R'⟩ := (h.bag k d hk hd).blkRow y hy
        exact hne R' (by decide))
      frs := fun k d hk hd x hx => by
        obtain ⟨gb, r1, r2, t', l1⟩ := h.frs k d hk hd x hx
        refine (h.frs k d hk hd x hx).only ho (hne r1 (by decide)) (fun y hy hm => ?_) (fun y hy cc r => hne r (by decide) hy)
        have e : y = g := by simpa using hm
        subst e
        exact mblk_ne t' h.row hy }, ⟨⟨[g], ho, fun y hy => .roads (by simpa using hy)⟩, fun _ hy => .inl hy⟩⟩
theorem NetG.lost (h : NetG B w p g n c vs fr K) (hk : k < n) (hd : d < 2) {up : Bool} {C P L : Int} (hup : c[k * 16]? = some (.bool up)) (hC : c[k * 16 + 1]? = some (.int .i64 C)) (hP : c[k * 16 + 4 + d]? = some (.int .u64 P)) (hL : c[k * 16 + 6 + d]? = some (.int .u64 L)) (hlt : up = false ∨ C ≤ ((fr k d).length : Int)) (f : Value) :
    Calls Try.prog 10 #[.pointer (some ⟨p, 0, none⟩), .int .i64 k, .int .i64 d, f] w fun e w' => e = .returned (.tuple #[.bool false, .int .i64 0]) ∧
      NetG B w' p g n ((c.set (k * 16 + 4 + d) (.int .u64 (IntKind.u64.wrap (P + 1)))).set (k * 16 + 6 + d) (.int .u64 (IntKind.u64.wrap (L + 1)))) vs fr K ∧ Stays w w' g n vs vs fr fr := by
  have hl := h.room16 hk
  refine (lost_ex h.net h.row hk hd hup hC hP hL (h.hbag k d hk hd) (h.bag k d hk hd) (by rw [List.length_map]; exact hlt)).mono ?_
  rintro e w' ⟨rfl, hr, ho⟩
  refine ⟨rfl, h.tells ho hr (by simp) (one_set (one_set h.one _ rfl) _ rfl) (fun k' hk' => ?_) (fun k' hk' => cell2 (by omega) (by omega)) (fun k' i hk' h4 h14 => ?_) (fun k' d' hk' hd' => cell2 (by omega) (by omega))⟩
  · obtain ⟨u, hu⟩ := h.up k' hk'
    exact ⟨u, by rw [cell2 (by omega) (by omega), hu]⟩
  · by_cases e1 : k' * 16 + i = k * 16 + 6 + d
    · rw [e1]; exact ⟨_, cell_set2 (by omega)⟩
    · by_cases e2 : k' * 16 + i = k * 16 + 4 + d
      · rw [e2]; exact ⟨_, cell_set1 (by omega) (by omega)⟩
      · obtain ⟨Q, hQ⟩ := h.cnt k' i hk' h4 h14
        exact ⟨Q, by rw [cell2 e2 e1, hQ]⟩
theorem NetG.set (h : NetG B w p g n c vs fr K) (hk : k < n) (nu : Bool) :
    Calls Try.prog 18 #[.pointer (some ⟨p, 0, none⟩), .int .i64 k, .bool nu] w fun e w' => e = .returned (.int .i64 0) ∧ NetG B w' p g n (c.set (k * 16) (.bool nu)) vs fr K ∧ Stays w w' g n vs vs fr fr := by
  have hl := h.room16 hk
  obtain ⟨u, hu⟩ := h.up k hk
  refine (set_in nu h.net h.row hk hu).mono ?_
  rintro e w' ⟨rfl, hr, ho⟩
  refine ⟨rfl, h.tells ho hr (by simp) (one_set h.one _ rfl) (fun k' hk' => ?_) (fun k' hk' => by rw [List.getElem?_set_ne (by omega)]) (fun k' i hk' h4 h14 => ?_) (fun k' d' hk' hd' => by rw [List.getElem?_set_ne (by omega)])⟩
  · by_cases e : k' = k
    · subst e; exact ⟨nu, by rw [List.getElem?_set_self (by omega)]⟩
    · obtain ⟨u', hu'⟩ := h.up k' hk'
      exact ⟨u', by rw [List.getElem?_set_ne (by omega), hu']⟩
  · obtain ⟨Q, hQ⟩ := h.cnt k' i hk' h4 h14
    exact ⟨Q, by rw [List.getElem?_set_ne (by omega), hQ]⟩
end
theorem roadsv_get : ∀ (cs : List Int) (k i : Nat) (hk : k < cs.length), i < 16 → (roadsv cs)[k * 16 + i]? = (roadv cs[k])[i]?
  | c :: cs, 0, i, _, hi => by
    show (roadv c ++ roadsv cs)[0 * 16 + i]? = _
    rw [Nat.zero_mul, Nat.zero_add, List.getElem?_append_left (by simpa [roadv] using hi)]
    rfl
  | c :: cs, k + 1, i, hk, hi => by
    show (roadv c ++ roadsv cs)[(k + 1) * 16 + i]? = _
    have hl : (roadv c).length = 16 := rfl
    rw [List.getElem?_append_right (by omega), hl, show (k + 1) * 16 + i - 16 = k * 16 + i by omega]
    exact roadsv_get cs k i (by simpa using hk) hi
/-- A net as New gives it. -/
theorem netg_new {B : Nat} {w w' : World} {p q n : Nat} {cs : List Int} (hB : B ≤ w.heap.size) (hn : cs.length = n) (hg : ∀ c ∈ cs, goodCap c) (h1 : w.heap.size ≤ q) (h2 : q < p) (R : Row w' q (roadsv cs) 67) (N : Row w' p [.slice (some ⟨q, 0, none⟩) n n] 52) (K : Nat) :
    NetG B w' p q n (roadsv cs) (fun _ _ => .slice none 0 0) (fun _ _ => []) K := by
  have at_ : ∀ k i, k < n → i < 16 → ∃ c, c ∈ cs ∧ (roadsv cs)[k * 16 + i]? = (roadv c)[i]? := fun k i hk hi => ⟨cs[k]'(by omega), List.getElem_mem _, roadsv_get cs k i (by omega) hi⟩
  exact
    { net := N, row := R, len := by rw [roadsv_len, hn]
      one := fun v hv => by
        obtain ⟨l, hl, hvl⟩ := List.mem_flatten.1 hv
        obtain ⟨c, _, rfl⟩ := List.mem_map.1 hl
        exact roadv_one c v hvl
      up := fun k hk => by
        obtain ⟨c, _, e⟩ := at_ k 0 hk (by decide)
        exact ⟨true, e⟩
      cap := fun k hk => by
        obtain ⟨c, hc, e⟩ := at_ k 1 hk (by decide)
        have := hg c hc
        exact ⟨c, e, this.1, this.2, fun d _ => by have := this.1; simp; omega⟩
      cnt := fun k i hk h4 h14 => by
        obtain ⟨c, _, e⟩ := at_ k i hk (by omega)
        rcases (show i = 4 ∨ i = 5 ∨ i = 6 ∨ i = 7 ∨ i = 8 ∨ i = 9 ∨ i = 10 ∨ i = 11 ∨ i = 12 ∨ i = 13 by omega) with rfl | rfl | rfl | rfl | rfl | rfl | rfl | rfl | rfl | rfl <;> exact ⟨0, e⟩
      hbag := fun k d hk hd => by
        rw [Nat.add_assoc]
        obtain ⟨c, _, e⟩ := at_ k (14 + d) hk (by omega)
        rcases (show d = 0 ∨ d = 1 by omega) with rfl | rfl <;> exact e
      bag := fun _ _ _ _ => .inl ⟨rfl, rfl⟩
      frs := fun _ _ _ _ x hx => by cases hx
      bp := by omega
      ge := fun x hx => by
        cases hx with
        | roads e => omega
        | bag k d hk hd hm => cases hm
        | parcel k d hk hd y hy e => cases hy
        | map k d hk hd y hy e => cases hy
      sepb := fun _ _ _ _ _ _ _ _ _ x hx => by cases hx
      sepq := fun _ _ _ _ _ _ _ _ _ _ _ _ _ hx => by simp at hx }
end Go.Proofs.Ytjnmfedefmemnaa
