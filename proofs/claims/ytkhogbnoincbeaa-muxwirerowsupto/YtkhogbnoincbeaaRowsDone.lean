import Derived.Test.YtkhogbnoincbeaaRo1
import Derived.Test.YtkhogbnoincbeaaOpen
import Derived.Deep.CondSized
namespace Go.Proofs.Ytkhogbnoincbeaa
open Go.ChangeShapes Go.WideShapes Go.ChangeAt Go.RowKit Go.Deep
set_option maxRecDepth 100000

theorem bulk_len {H : Type} : ∀ (l : List (DataW H)), l.length ≤ Rows.uptoBulkAll l
  | [] => Nat.le_refl _
  | d :: r => by
    have h1 := bulk_len r
    have h2 : 1 ≤ Rows.uptoBulk d := by
      cases d with
      | lit x => cases x <;> simp [Rows.uptoBulk]
      | _ => simp [Rows.uptoBulk]
    simp only [List.length_cons, Rows.uptoBulkAll]
    omega
theorem bulk_slice {H : Type} {enc : TypeId × Value → H} {W : World} {sp : Nat → Bool} {held : Bool} {fuel : Nat} {a : Option Addr} {len cap : Nat} {t e : TypeId} {x : DataW H × List MemPlace} (hu : Try.prog.underlying t = some (.slice e)) (h : DataW.trod enc Try.prog W 0 sp held fuel t [.slice a len cap] = some x) : len ≤ Rows.uptoBulk x.1 := by
  rcases open_slice hu h with ⟨hcs, _⟩ | ⟨ad, l2, c2, m, n, D, Pl, hcs, _, hl, hm, hmm, hx, hel⟩
  · simp at hcs
    omega
  · simp at hcs
    obtain ⟨_, rfl, _⟩ := hcs
    rw [hx]
    simp only [Rows.uptoBulk]
    have := bulk_len ((List.range len).map D)
    rw [List.length_map, List.length_range] at this
    omega
theorem weights_mem_all {H : Type} {P : Program} {e : TypeId} {d : DataW H} : ∀ {l : List (DataW H)}, d ∈ l → ∀ n ∈ d.weights P e, n ∈ DataW.weightsAll P e l
  | x :: r, h, n, hn => by
    simp only [DataW.weightsAll]
    rcases List.mem_cons.1 h with rfl | h
    · exact List.mem_append_left _ hn
    · exact List.mem_append_right _ (weights_mem_all h n hn)
section
variable {H : Type} {enc : TypeId × Value → H} {W : World}
theorem open_fi {sp : Nat → Bool} {held : Bool} {fuel : Nat} {c : List Value} {x : DataW H × List MemPlace} (h : DataW.trod enc Try.prog W 0 sp held fuel 25 c = some x) (hw : ∀ n ∈ x.1.weights Try.prog 25, n ≤ reachBytes) :
    ∃ f : Fi, c = pcells (f.F, f.v) ∧ BytesAt W f.ax f.F.bs ∧ (f.ax = none → f.cx = 0) ∧ 0 ≤ f.F.s ∧ 0 ≤ f.F.n ∧ f.F.bs.length + 1 ≤ Rows.uptoBulk x.1 := by
  obtain ⟨k, s, n, cl, sh, y, rfl, s0, _, n0, _, hy⟩ := open_cells h hw
  refine ⟨⟨⟨k, s, n, cl, sh, y.bs⟩, y.a, y.cap⟩, rfl, hy.by_, hy.z, s0, n0, ?_⟩
  obtain ⟨xs, m, _, hx, hl, hxl, hf⟩ := DataW.trod_struct Try.underlying25 h
  have hxl2 : xs.length = 6 := hxl
  match xs, hxl2 with
  | [y0, y1, y2, y3, y4, y5], _ =>
    have g5 := hf 5 _ rfl
    simp [cells23] at g5
    have h5 := bulk_slice Try.underlying23 g5
    rw [hx]
    simp only [List.map_cons, List.map_nil, Rows.uptoBulk, Rows.uptoBulkAll]
    omega
theorem tot_bulk {f : Nat → Fi} {D : Nat → DataW H} : ∀ l : List Nat, (∀ i ∈ l, (f i).F.bs.length + 1 ≤ Rows.uptoBulk (D i)) → tot (l.map f) ≤ 60 * Rows.uptoBulkAll (l.map D)
  | [], _ => Nat.zero_le _
  | i :: r, h => by
    have h1 := h i (by simp)
    have h2 := tot_bulk r (fun j hj => h j (by simp [hj]))
    simp only [List.map_cons, tot, Rows.uptoBulkAll]
    omega
theorem open_fis {sp : Nat → Bool} {held : Bool} {fuel len cap : Nat} {a : Option Addr} {x : DataW H × List MemPlace} (h : DataW.trod enc Try.prog W 0 sp held fuel 45 [.slice a len cap] = some x) (hw : ∀ k ∈ x.1.weights Try.prog 45, k ≤ reachBytes) (hb : Rows.uptoBulk x.1 ≤ 1048576) :
    ∃ fs : List Fi, fs.length = len ∧ FisAt W a fs ∧ tot fs ≤ 67108864 := by
  rcases open_slice Try.underlying45 h with ⟨hcs, _⟩ | ⟨ad, l, c, m, n, D, Pl, hcs, _, hl, hm, hmm, hx, hel⟩
  · simp at hcs
    obtain ⟨rfl, rfl, rfl⟩ := hcs
    exact ⟨[], rfl, ⟨fun i h => by simp at h, by simp⟩, Nat.zero_le _⟩
  · simp at hcs
    obtain ⟨rfl, rfl, rfl⟩ := hcs
    have hlm : len ≤ m := by rw [hmm]; split <;> omega
    have hwD : ∀ i, i < len → ∀ k ∈ (D i).weights Try.prog 25, k ≤ reachBytes := fun i hi k hk => by
      refine hw k ?_
      rw [hx]
      simp only [DataW.weights, Try.underlying45]
      exact List.mem_cons_of_mem _ (List.mem_append_left _ (weights_mem_all (d := D i) (List.mem_map.2 ⟨i, by simpa using hi, rfl⟩) k hk))
    have each : ∀ i, i < len → ∃ f : Fi, (∀ j, j < 6 → W.cell? (ad.add (i * 6 + j)) = (pcells (f.F, f.v))[j]?) ∧ (BytesAt W f.ax f.F.bs ∧ (f.ax = none → f.cx = 0) ∧ 0 ≤ f.F.s ∧ 0 ≤ f.F.n) ∧ f.F.bs.length + 1 ≤ Rows.uptoBulk (D i) := by
      intro i hi
      obtain ⟨cs', h1, h2⟩ := hel i (by omega)
      rw [cells25] at h1
      obtain ⟨_, hlen, hcell⟩ := World.cells?_some h1
      obtain ⟨f, rfl, w1, w2, w3, w4, w5⟩ := open_fi h2 (hwD i hi)
      refine ⟨f, fun j hj => ?_, ⟨w1, w2, w3, w4⟩, w5⟩
      have := hcell j hj
      rwa [add_add] at this
    have hinst : Inhabited Fi := ⟨⟨PF.zero, none, 0⟩⟩
    obtain ⟨f, hf⟩ := choose_lt each
    refine ⟨(List.range len).map f, by simp, ⟨fun i h => ?_, fun o ho => ?_⟩, ?_⟩
    · have hi : i < len := by simpa using h
      have h0 := (hf 0 (by omega)).1 0 (by omega)
      have hs : ad.spot = none := World.cell?_spot (a := ad) (v := .int .i64 (f 0).F.k) (by simpa [Addr.add, pcells] using h0)
      have hh := (hf i (by omega)).1
      have e : ((List.range len).map f)[i] = f i := by simp
      rw [e]
      refine ⟨ad.block, ad.off, ?_, fun j v hv => ?_⟩
      · cases ad; simp only at hs; subst hs; rfl
      · have hj : j < 6 := (List.getElem?_eq_some_iff.1 hv).1
        have := hh j hj
        rw [addr_off hs, hv] at this
        rw [← this]
        congr 2
        omega
    · simp only [List.mem_map, List.mem_range] at ho
      obtain ⟨i, hi, rfl⟩ := ho
      exact (hf i (by omega)).2.1
    · have h1 := tot_bulk (f := f) (D := D) (List.range len) (fun i hi => (hf i (by have := List.mem_range.1 hi; omega)).2.2)
      rw [hx] at hb
      simp only [Rows.uptoBulk] at hb
      omega
end
theorem rows_lifted (os : Os) (started : os.Started) (H : Type) (enc : TypeId × Value → H) (F : Stop.Interp) :
    ReturnsInHanded {} Try.checked os 8 .any ((Rows.OpenSpec.upto Rows.muxwireRowsSpec).pre6 enc Try.prog Try.f8 Rows.muxwireRowsUptoRow.domain false) (((Rows.OpenSpec.upto Rows.muxwireRowsSpec).at F).post enc Try.prog Try.f8 false true false false) := by
  refine returnsInHanded_of_cond_sized (C := Try.checked) (s := Rows.OpenSpec.upto Rows.muxwireRowsSpec) (k := Rows.uptoSmall) rfl own started (by kernel_rfl) Try.func8
    (OpenSpec.witness (enc := enc) (C := Try.checked) (s := Rows.OpenSpec.upto Rows.muxwireRowsSpec) (k := Rows.uptoSmall) rfl false ⟨#[], #[.slice none 0 0], []⟩ 8 (by kernel_rfl) (by kernel_rfl) (by kernel_rfl)
      (x := ([.nil], [], [])) (by kernel_rfl) rfl (by kernel_rfl)) ?_
  intro W base args ds gs before hval0 hW _ hk hsz0 _
  have hval : ∀ (j : Nat) t v, Try.f8.params[j]? = some t → args[j]? = some v → Value.okWide Try.prog W .any base t v := hval0
  have hsz : (DataW.weightsEach Try.prog (Try.f8.params.toList ++ Rows.muxwireRowsSpec.plain.varTypes Try.prog) (ds ++ gs)).all (· ≤ reachBytes) = true := hsz0
  have hW' := hW
  obtain ⟨p, q, hA0, hV, rfl, _, _⟩ := hW
  have hA : DataW.TrodAll enc Try.prog W 0 (fun _ => true) true Try.f8.params.toList args.toList ds p := hA0
  rw [Try.params8] at hA hval hsz
  obtain ⟨v0, d0, rfl, rfl, h0⟩ := trodAll_one hA
  obtain ⟨rfl, rfl⟩ := trodVars_none hV
  have lt0 : ∀ x ∈ p, x.block < W.heap.size := by obtain ⟨m, hm⟩ := h0; exact DataW.trod_lt m _ _ _ hm
  obtain ⟨a0, len0, cap0, rfl⟩ := okWide_slice Try.underlying45 (hval 0 45 v0 rfl rfl)
  have k0 := h0
  have hbk : Rows.uptoBulk d0 ≤ 1048576 := by
    have h : Rows.uptoBulkAll ([d0] ++ []) ≤ 1048576 := of_decide_eq_true hk
    simp only [List.append_nil, Rows.uptoBulkAll] at h
    omega
  obtain ⟨fs, rfl, hI, hT⟩ : ∃ fs : List Fi, fs.length = len0 ∧ FisAt W a0 fs ∧ tot fs ≤ 67108864 := by
    obtain ⟨fuel, hf⟩ := h0
    exact open_fis hf (fun k hk => by simpa using List.all_eq_true.1 hsz k (DataW.weights_mem_each (j := 0) (t := 45) (d := d0) rfl rfl k hk)) hbk
  clear hA0 hval0 hk hsz0
  refine (rows_law W cap0 hI hT).mono fun e W' ⟨he, bel⟩ => ?_
  subst he
  exact ⟨_, rfl, _, _, _, [], _, [], hW', trodAll_mk1 (shut_bool Try.underlying4 _), (trodAll_mk1 (Below.trod laidOut (by kernel_rfl) (of_decide_eq_true (by kernel_rfl)) k0 bel lt0)), rfl, bel.frame _, fun h => by cases h⟩

/-- The bytes of a row of fit frames are read as that row, with nothing left; with one byte less the last one waits. -/
theorem rows_holds : Rows.MuxwireRowsUptoSaid :=
  OpenClaim.holds_of_cond 8 Try.f8 rfl rfl rfl rfl rfl rfl rfl ⟨rfl, rfl, rfl, rfl, rfl⟩ rfl rfl rfl rfl rfl (by kernel_rfl) Try.func8 (by kernel_rfl)
    (of_decide_eq_true (by kernel_rfl)) (by unfold Func.isWrapper; first | (rw [if_pos (by decide +kernel)]; kernel_rfl) | (rw [if_neg (by decide +kernel)]; exact ⟨rfl, rfl⟩))
    (fun os started H enc _ F => rows_lifted os started H enc F)
#print axioms rows_holds
end Go.Proofs.Ytkhogbnoincbeaa
