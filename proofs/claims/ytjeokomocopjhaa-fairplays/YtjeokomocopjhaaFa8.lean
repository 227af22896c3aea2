import Derived.Test.YtjeokomocopjhaaFa7
namespace Go.Proofs.Ytjeokomocopjhaa
open Go.RowKit Go.Maps
set_option maxRecDepth 100000

/-- What a quantum counts as. -/
def qN (quantum : Int) : Int := max 1 (min quantum 65536)
theorem qN_bd (z : Int) : 1 ≤ qN z ∧ qN z ≤ 65536 := by unfold qN; omega
def Fs.zero (q : Int) : Fs := ⟨q, [], fun _ => []⟩
theorem mkmap (w : World) : (Instr.makeMap 53 none).run Try.prog w = .ok (.map (some w.heap.size)) (w.alloc (.map #[] 0)) := by kernel_rfl
theorem build57 (w : World) (q : Int) (b : Nat) : (Instr.build 57 #[(0, .int .i64 q), (1, .map (some b))]).run Try.prog w = .ok (.agg #[.int .i64 q, .map (some b), .slice none 0 0, .slice none 0 0, .slice none 0 0, .slice none 0 0, .slice none 0 0, .slice none 0 0, .slice none 0 0, .slice none 0 0]) w := by kernel_rfl
set_option maxHeartbeats 1000000 in
theorem new_any (w : World) (quantum : Int) : Calls Try.prog 7 #[.int .i64 quantum] w fun e w' => ∃ p b V, e = .returned (pt p 0) ∧ FaAt w' p b V (Fs.zero (qN quantum)) ∧ Below w.heap.size w w' ∧ ∀ k, Foot p b V (Fs.zero (qN quantum)) k → w.heap.size ≤ k := by
  have hm := mkmap
  have hbd := build57
  go_enter Try.func7, Try.ntmps7
  go_wp2
  go_ret
  have hbm := below_box w (.map #[] 0)
  have hs1 : (w.alloc (.map #[] 0)).heap.size = w.heap.size + 1 := by simp
  have hbk := below_box (w.alloc (.map #[] 0)) (.cells (fcells (qN quantum) w.heap.size (fun _ => .slice none 0 0)).toArray 57)
  have RP := Row.new (w.alloc (.map #[] 0)) (fcells (qN quantum) w.heap.size (fun _ => .slice none 0 0)) 57
  have hmo := (World.ownsMap_made w Try.prog 26 readP).alloc (.cells (fcells (qN quantum) w.heap.size (fun _ => .slice none 0 0)).toArray 57)
  rw [hs1] at RP
  refine ⟨w.heap.size + 1, w.heap.size, fun _ => .slice none 0 0, rfl, ⟨RP, hmo, fun x hx => (by cases hx), List.Pairwise.nil, List.Pairwise.nil, fun k _ => ?_, fun j k _ _ _ g e => by simp [Value.ownBlock] at e⟩, hbm.trans (hbk.mono hbm.size), ?_⟩
  · exact ⟨rfl, .inl ⟨rfl, rfl⟩⟩
  · rintro k (rfl | rfl | ⟨x, hx, _⟩ | ⟨j, _, e⟩)
    · omega
    · omega
    · cases hx
    · simp [Value.ownBlock] at e
/-- What Add answers. -/
def Fs.addE (F : Fs) (id cls shr : Int) : Int :=
  if (fnd F.U id).isSome then 190 else if cls < 0 ∨ 7 < cls then 191 else if shr < 1 ∨ 255 < shr then 192 else if 1024 ≤ F.U.length then 194 else 0
theorem ne58 (w : World) (g : Nat) : (binOp BinOp.neq 58 (pt g 0) (.pointer none)).run Try.prog w = .ok (.bool true) w := by kernel_rfl
/-- The stream that is added. -/
def fresh (id : Int) (g cls : Nat) (shr : Int) : Ln := ⟨id, g, ⟨cls, shr, 0, 0⟩⟩
/-- The store of a new stream into the map. -/
theorem add_store {w : World} {p b : Nat} {V : Nat → Value} {F : Fs} (h : FaAt w p b V F) (hl : F.U.length < maxLen) (id shr : Int) (cls : Nat) (hy : (∀ x ∈ F.U, x.num ≠ id) ∧ 0 ≤ id ∧ id ≤ 18446744073709551615) :
    ∃ w6, (Instr.mapUpdate 53 (.map (some b)) (.int .u64 id) (.pointer (some ⟨w.heap.size, 0, none⟩))).run Try.prog (w.alloc (.cells #[.int .u64 id, .int .i64 cls, .int .i64 shr, .int .i64 0, .int .i64 0] 44)) = .ok () w6 ∧
      Mv p b V F w V { F with U := ins (fresh id w.heap.size cls shr) F.U } w6 := by
  have hbx := below_box w (.cells #[.int .u64 id, .int .i64 cls, .int .i64 shr, .int .i64 0, .int .i64 0] 44)
  have H := h.below hbx
  obtain ⟨w6, hrun, hown, hturn⟩ := World.ownsMap.store H.map law26 Try.underlying53 hl (key := .int .u64 id) (val := pt w.heap.size 0) (d := .held w.heap.size) (ps := []) (key26 hy.2.1 hy.2.2) rfl
  have hR : Row (w.alloc (.cells #[.int .u64 id, .int .i64 cls, .int .i64 shr, .int .i64 0, .int .i64 0] 44)) w.heap.size (fresh id w.heap.size cls shr).cells 44 := Row.new w (fresh id w.heap.size cls shr).cells 44
  have hlt : ∀ x ∈ F.U, x.g ≠ w.heap.size := fun x hx => by have := h.lt (.inr (.inr (.inl ⟨x, hx, rfl⟩))); omega
  have hF : Fr (Foot p b V F) w w6 := ((Fr.of_below hbx (Nat.le_refl _)).trans (T := fun k => k = b) (Fr.of_grown hturn.grown (fun k e => .inl (by simpa using e.symm))) (fun x e => .inl e)).wider (fun k e => .inr (.inl e))
  refine ⟨w6, hrun, H.born (y := fresh id w.heap.size cls shr) hy.1 hR hlt hown hturn.grown, hF, fun k hk => ?_⟩
  rcases hk with e | e | ⟨x, hx, rfl⟩ | e
  · exact .inl (.inl e)
  · exact .inl (.inr (.inl e))
  · rcases mem_ins.1 hx with rfl | hx
    · exact .inr (Nat.le_refl _)
    · exact .inl (.inr (.inr (.inl ⟨x, hx, rfl⟩)))
  · exact .inl (.inr (.inr (.inr e)))
set_option maxHeartbeats 2000000 in
theorem add_no {w : World} {p b : Nat} {V : Nat → Value} {F : Fs} (h : FaAt w p b V F) (hl : F.U.length ≤ 1024) {id cls shr : Int} (h0 : 0 ≤ id) (h1 : id ≤ 18446744073709551615) (hE : F.addE id cls shr ≠ 0) :
    Calls Try.prog 9 #[pt p 0, .int .u64 id, .int .i64 cls, .int .i64 shr] w fun e w' => e = .returned (.int .i64 (F.addE id cls shr)) ∧ w' = w := by
  have hL := look_any h.map h0 h1
  have c1 := h.row.cell 1 _ rfl
  have HM := hid2 h.map
  have hli : (F.U.length : Int) ≤ 1024 := by omega
  clear h
  unfold Fs.addE at *
  cases hf : fnd F.U id with
  | some x =>
    rw [hf] at hL
    simp only [Option.map_some, ptrV] at hL
    have hn := ne58 w x.g
    simp only [Option.isSome_some, if_true]
    clear hE hf
    go_enter Try.func9, Try.ntmps9
    go_wp2_with fail
    go_ret
    exact ⟨rfl, rfl⟩
  | none =>
    rw [hf] at hL hE
    simp only [Option.map_none, ptrV] at hL
    simp only [Option.isSome_none, Bool.false_eq_true, if_false] at hE ⊢
    clear hf
    by_cases hc : cls < 0 ∨ 7 < cls
    · rw [if_pos hc]
      rcases hc with hc | hc
      · go_enter Try.func9, Try.ntmps9
        go_wp2_with fail
        go_ret
        exact ⟨rfl, rfl⟩
      · have hc' : ¬ cls < 0 := by omega
        go_enter Try.func9, Try.ntmps9
        go_wp2_with fail
        go_ret
        exact ⟨rfl, rfl⟩
    · rw [if_neg hc] at hE ⊢
      have hc1 : ¬ cls < 0 := by omega
      have hc2 : ¬ 7 < cls := by omega
      by_cases hs : shr < 1 ∨ 255 < shr
      · rw [if_pos hs]
        rcases hs with hs | hs
        · go_enter Try.func9, Try.ntmps9
          go_wp2_with fail
          go_ret
          exact ⟨rfl, rfl⟩
        · have hs' : ¬ shr < 1 := by omega
          go_enter Try.func9, Try.ntmps9
          go_wp2_with fail
          go_ret
          exact ⟨rfl, rfl⟩
      · rw [if_neg hs] at hE ⊢
        have hs1 : ¬ shr < 1 := by omega
        have hs2 : ¬ 255 < shr := by omega
        by_cases hm : 1024 ≤ F.U.length
        · rw [if_pos hm]
          have hm' : (1024 : Int) ≤ (F.U.length : Int) := by omega
          go_enter Try.func9, Try.ntmps9
          go_wp2_with (at_len; refine wpList_len_own _ rfl _ 53 rfl 26 58 Try.underlying53 readP b F.U.length (UD F.U) rfl HM.out ?_; rw [UD_size])
          go_ret
          exact ⟨rfl, rfl⟩
        · rw [if_neg hm] at hE
          exact absurd rfl hE
set_option maxHeartbeats 2000000 in
theorem add_ok {w : World} {p b : Nat} {V : Nat → Value} {F : Fs} (h : FaAt w p b V F) {id shr : Int} {cls : Nat} (h0 : 0 ≤ id) (h1 : id ≤ 18446744073709551615) (hE : F.addE id cls shr = 0) :
    Calls Try.prog 9 #[pt p 0, .int .u64 id, .int .i64 cls, .int .i64 shr] w fun e w' => e = .returned (.int .i64 0) ∧ ∃ g, w.heap.size ≤ g ∧ Mv p b V F w V { F with U := ins (fresh id g cls shr) F.U } w' := by
  unfold Fs.addE at hE
  cases hf : fnd F.U id with
  | some x => rw [hf] at hE; simp at hE
  | none =>
    rw [hf] at hE
    simp only [Option.isSome_none, Bool.false_eq_true, if_false] at hE
    by_cases hc : (cls : Int) < 0 ∨ 7 < (cls : Int)
    · rw [if_pos hc] at hE; exact absurd hE (by decide)
    rw [if_neg hc] at hE
    by_cases hs : shr < 1 ∨ 255 < shr
    · rw [if_pos hs] at hE; exact absurd hE (by decide)
    rw [if_neg hs] at hE
    by_cases hm : 1024 ≤ F.U.length
    · rw [if_pos hm] at hE; exact absurd hE (by decide)
    have hL := look_any h.map h0 h1
    rw [hf] at hL
    simp only [Option.map_none, ptrV] at hL
    obtain ⟨w6, hrun, hM⟩ := add_store h (by unfold maxLen; omega) id shr cls ⟨fnd_none hf, h0, h1⟩
    have c1 := h.row.cell 1 _ rfl
    have d1 := (h.row.alloc (.cells #[.int .u64 id, .int .i64 cls, .int .i64 shr, .int .i64 0, .int .i64 0] 44)).cell 1 _ rfl
    have hc1 : ¬ (cls : Int) < 0 := by omega
    have hc2 : ¬ 7 < (cls : Int) := by omega
    have hs1 : ¬ shr < 1 := by omega
    have hs2 : ¬ 255 < shr := by omega
    have hm' : ¬ (1024 : Int) ≤ (F.U.length : Int) := by omega
    have HM := hid2 h.map
    have HMV := hid2 hM
    have HRUN := hid2 hrun
    clear h hf hc hs hE hm hM
    go_enter Try.func9, Try.ntmps9
    go_wp2_with (at_len; refine wpList_len_own _ rfl _ 53 rfl 26 58 Try.underlying53 readP b F.U.length (UD F.U) rfl HM.out ?_; rw [UD_size])
    all_goals (go_ret; exact ⟨rfl, w.heap.size, Nat.le_refl _, HMV.out⟩)
end Go.Proofs.Ytjeokomocopjhaa
