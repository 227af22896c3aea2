import Derived.Test.YtbkfmknjbdonlaaFlow0
namespace Go.Proofs.Ytbkfmknjbdonlaa
open Go.RowKit Go.Maps Go.Sort
set_option maxRecDepth 100000

def Fl.send (F : Fl) (now kind off n : Int) : Fl := { F with U := F.U ++ [⟨F.next, kind, off, n, now⟩], next := F.next + 1, last := now, mark := if F.U.length = 0 then now else F.mark }
theorem Fl.Ok.send {F : Fl} (h : F.Ok) {now : Int} (h0 : 0 ≤ now) (h1 : now ≤ 18446744073709551615) (kind off n : Int) : (F.send now kind off n).Ok := by
  refine ⟨h.est, h.rise.snoc (fun x hx => (h.nums x hx).2), fun x hx => ?_, by have := h.next0; simp only [Fl.send]; omega, ?_, ?_⟩
  · simp only [Fl.send, List.mem_append, List.mem_singleton] at hx ⊢
    rcases hx with hx | rfl
    · have := h.nums x hx; omega
    · have := h.next0; simp only; omega
  · simp only [Fl.send]; split; exact h0; exact h.mark0
  · simp only [Fl.send]; split; exact h1; exact h.mark1
theorem wrapu (x : Int) (h0 : 0 ≤ x) (h1 : x ≤ 18446744073709551615) : IntKind.u64.wrap x = x := by rw [IntKind.wrap_u64]; omega
set_option maxHeartbeats 2000000 in
theorem send_any {w : World} {p b g : Nat} {F : Fl} (h : FlowAt w p b g F) (ok : F.Ok) (hn : F.next < 18446744073709551615) (hl : F.U.length < 9223372036854775807) (now kind off n : Int) :
    Calls Try.prog 19 #[.pointer (some ⟨p, 0, none⟩), .int .u64 now, .int .i64 kind, .int .u64 off, .int .i64 n] w fun e w' => e = .returned (.int .u64 F.next) ∧ FlowAt w' p b g (F.send now kind off n) ∧ Only [p, b, g] w w' := by
  have hne := h.ne
  have c0 := h.row.cell 0 _ rfl
  have c4 := h.row.cell 4 _ rfl
  have f6 := h.row.frozen 6
  have c6 := h.row.cell 6 _ rfl
  have hkey := hid (key36 (n := F.next) ok.next0 (by omega))
  have ew : IntKind.u64.wrap (F.next + 1) = F.next + 1 := wrapu _ (by have := ok.next0; omega) (by omega)
  have HPUT := hid (UD_put (U := F.U) (y := ⟨F.next, kind, off, n, now⟩) (fun x hx => (ok.nums x hx).2))
  have hlm : F.U.length < maxLen := by unfold maxLen; omega
  obtain ⟨U, E, rt, st, nx, la, mk, li⟩ := F
  simp only [Fl.send] at hn hl hkey ew HPUT hlm c0 c4 c6 ⊢
  have HR : Hid (Row w p [.map (some b), .pointer (some ⟨g, 0, none⟩), .int .i64 rt, .int .i64 st, .int .u64 nx, .int .u64 la, .int .u64 mk, .int .u64 li] 87) := h.row
  have HM : Hid (OwnU w b U) := h.map
  have HE : Hid (EstAt w g E) := h.est
  have HN := hid hne
  clear h ok hne
  by_cases he : U.length = 0
  · have hez : ((U.length : Nat) : Int) = 0 := by omega
    rw [if_pos he]
    have HR1 := hid (HR.out.set 6 (.int .u64 now))
    have HM1 := hid (HM.out.setCell (p := p) (o := 6) (fun e => HN.out.1 e.symm) (.int .u64 now))
    go_enter Try.func19, Try.ntmps19
    go_wp2_with (first | (at_len; refine len_items rfl _ rfl b U rfl HM.out ?_; rw [hez]) | (at_mapUpdate; refine wpList_mapUpdate_in _ rfl _ _ _ 83 rfl 36 60 law36 Try.underlying83 readIt b _ _ rfl HM1.out hlm _ _ _ rfl rfl hkey.out _ _ (readIt_val ⟨nx, kind, off, n, now⟩) ?_; intro w1 hown1 hturn1; have HO1 := hid hown1; have HT1 := hid hturn1; have R1 := HR1.out.of_block (hturn1.grown.block p HR1.out.lt (by simpa using HN.out.1)); have d4 := R1.cell 4 _ rfl; have d5 := R1.cell 5 _ rfl; have g4 := R1.frozen 4; have g5 := R1.frozen 5; have HR2 := hid R1; clear R1 hown1 hturn1))
    go_ret
    obtain ⟨n1, n2, n3⟩ := HN.out
    refine ⟨rfl, ⟨(HR2.out.set 4 _).set 5 _, ?_, ?_⟩, ?_⟩
    · refine OwnU.setCell (OwnU.setCell ?_ (fun e => n1 e.symm) _) (fun e => n1 e.symm) _
      have := HO1.out
      rw [HPUT.out] at this
      exact own_tight this
    · refine Row.setOther (Row.setOther ?_ _ (fun e => n2 e.symm) _) _ (fun e => n2 e.symm) _
      exact Row.of_block (Row.setOther HE.out ⟨p, 6, none⟩ (fun e => n2 e.symm) _) (HT1.out.grown.block g (Row.lt (Row.setOther HE.out ⟨p, 6, none⟩ (fun e => n2 e.symm) _)) (by simpa using n3))
    · exact ((((Only.refl _ _).setCell p 6 _ (.inl (by simp))).grown HT1.out.grown (.inl (by simp))).setCell p 4 _ (.inl (by simp))).setCell p 5 _ (.inl (by simp))
  · have hez : decide (((U.length : Nat) : Int) = 0) = false := decide_eq_false (by omega)
    rw [if_neg he]
    go_enter Try.func19, Try.ntmps19
    go_wp2_with (first | (at_len; refine len_items rfl _ rfl b U rfl HM.out ?_) | (at_mapUpdate; refine wpList_mapUpdate_in _ rfl _ _ _ 83 rfl 36 60 law36 Try.underlying83 readIt b _ _ rfl HM.out hlm _ _ _ rfl rfl hkey.out _ _ (readIt_val ⟨nx, kind, off, n, now⟩) ?_; intro w1 hown1 hturn1; have HO1 := hid hown1; have HT1 := hid hturn1; have R1 := HR.out.of_block (hturn1.grown.block p HR.out.lt (by simpa using HN.out.1)); have d4 := R1.cell 4 _ rfl; have d5 := R1.cell 5 _ rfl; have g4 := R1.frozen 4; have g5 := R1.frozen 5; have HR2 := hid R1; clear R1 hown1 hturn1))
    go_ret
    obtain ⟨n1, n2, n3⟩ := HN.out
    refine ⟨rfl, ⟨(HR2.out.set 4 _).set 5 _, ?_, ?_⟩, ?_⟩
    · refine OwnU.setCell (OwnU.setCell ?_ (fun e => n1 e.symm) _) (fun e => n1 e.symm) _
      have := HO1.out
      rw [HPUT.out] at this
      exact own_tight this
    · refine Row.setOther (Row.setOther ?_ _ (fun e => n2 e.symm) _) _ (fun e => n2 e.symm) _
      exact Row.of_block HE.out (HT1.out.grown.block g (Row.lt HE.out) (by simpa using n3))
    · exact (((Only.refl _ _).grown HT1.out.grown (.inl (by simp))).setCell p 4 _ (.inl (by simp))).setCell p 5 _ (.inl (by simp))
theorem egEvery : ∀ args w, (callFunc 44 args).run Try.prog w = .ok (.enter 44 args) w := enters_of Try.func44 (by kernel_rfl) rfl
theorem filter_every (U : List It) : U.filter (fun _ => true) = U := by simp
theorem items_any (hSort : SortI) {w : World} {p b g : Nat} {F : Fl} (h : FlowAt w p b g F) (ok : F.Ok) (hl : F.U.length * 40 ≤ 140737488355328) :
    Calls Try.prog 31 #[.pointer (some ⟨p, 0, none⟩)] w fun e w' => ∃ v, e = .returned v ∧ w'.ownsRow w.heap.size 60 5 v F.U.length (flatI F.U) ∧ Below w.heap.size w w' := by
  have hL := list_none hSort h.map ok.rise hl 44 (fun _ => true) egEvery (fun W x _ _ => every_any x W)
  rw [filter_every] at hL
  have c := h.row.cell 0 _ rfl
  clear h ok
  go_enter Try.func31, Try.ntmps31
  go_wp2_with (go_at_call 54; refine hL.mono ?_; rintro e w2 ⟨v, rfl, hr, hb⟩; have HB := hid (And.intro hr hb); clear hr hb)
  go_ret
  exact ⟨v, rfl, HB.out.1, HB.out.2⟩
end Go.Proofs.Ytbkfmknjbdonlaa
