import Derived.Test.YtgfefopihkiihaaCa6
namespace Go.Proofs.Ytgfefopihkiihaa
open Go.RowKit Go.Maps
set_option maxRecDepth 100000

set_option maxHeartbeats 1000000 in
/-- A copy of bytes. -/
theorem copy_any {w : World} {a : Option Addr} {n cap : Nat} {bs : List (BitVec 8)} (hB : BytesAt w a bs) (hn : bs.length = n) (hl : n ≤ 140737488355328) (hz : a = none → cap = 0) :
    Calls Try.prog 17 #[.slice a n cap] w fun e w' => ∃ v, e = .returned v ∧ OwnBy w' w.heap.size v bs ∧ Below w.heap.size w w' := by
  have HB := hid hB
  have HN := hid hn
  have HL := hid hl
  have HZ := hid hz
  clear hB hn hl hz
  go_enter Try.func17, Try.ntmps17
  go_wp2_with (at_builtin; refine wpAppendA (.tmp 4) (.tmp 5) rfl rfl (base := w.heap.size) (v := .slice none 0 0) (old := []) rfl (own_nil w w.heap.size) (Nat.le_refl _) rfl HZ.out HN.out HB.out (by have := HL.out; simp; omega) ?_; intro w' v' hO hb)
  go_ret
  have hb2 : Below w.heap.size w w' := grown_below hb.out.1 (fun g e => by simp [Value.ownBlock] at e) (Nat.le_refl _)
  have hO2 := hO.out
  rw [List.nil_append, show ([] : List (BitVec 8)).length + n = bs.length by have := HN.out; simp; omega] at hO2
  exact ⟨_, rfl, hO2, hb2⟩
/-- So far copied. -/
structure EvI (b : Nat) (w wx : World) (l : List Evt) (j : Nat) (v : Value) (L : List Evt) : Prop where
  own : EvsOwn wx b v L
  view : L.map Evt.view = (l.take j).map Evt.view
  ck : ∀ e ∈ L, 0 ≤ e.clock ∧ e.clock < 18446744073709551616 ∧ e.bs.length ≤ 140737488355328
  below : Below b w wx
set_option maxHeartbeats 8000000 in
/-- Events with lists of their own. -/
theorem events_any {w : World} {a : Option Addr} {c : Nat} {l : List Evt} (h : EvsAt w a l) (hl : l.length ≤ 2513169434916) :
    Calls Try.prog 9 #[.slice a l.length c] w fun en w' => ∃ v L, en = .returned v ∧ EvI w.heap.size w w' l l.length v L := by
  have HE := hid h
  have hll : (l.length : Int) ≤ 2513169434916 := by omega
  obtain ⟨b, hb⟩ : ∃ b, w.heap.size = b := ⟨_, rfl⟩
  rw [hb]
  have HBB := hid hb
  clear h hb
  go_enter Try.func9, Try.ntmps9
  go_upto_region 3 with fail
  go_loopw [3, 8] (fun v t wx => ∃ (j : Nat) (L : List Evt), t = .int .i64 j ∧ j ≤ l.length ∧ EvI b w wx l j v L) (fun _ t _ => l.length - (intOf t).toNat)
  case atStart => exact ⟨0, [], by go_num, Nat.zero_le _, ⟨⟨⟨rfl, .inl ⟨rfl, rfl⟩⟩, fun p hp => absurd hp List.not_mem_nil⟩, rfl, fun p hp => absurd hp List.not_mem_nil, Below.refl _ _⟩⟩
  case round =>
    obtain ⟨j, L, rfl, hj, hI⟩ := hrel
    have HI := hid hI
    have hj0 : (0 : Int) ≤ (j : Int) := by omega
    by_cases hjl : j < l.length
    · have hji : (j : Int) < (l.length : Int) := by omega
      obtain ⟨e, he⟩ : ∃ e, l[j]? = some e := ⟨_, List.getElem?_eq_getElem hjl⟩
      have hk := HE.out.kept (HBB.out.symm ▸ hI.below)
      obtain ⟨g, o, rfl, hc⟩ := hk.row j e he
      have HOK := hid (hk.ok e (List.mem_of_getElem? he))
      have HLE := hid he
      have c0 : wr.cell? ⟨g, o + j * 5, none⟩ = some (.int .i64 e.what) := hc 0 _ rfl
      have c1 : wr.cell? ⟨g, o + j * 5 + 1, none⟩ = some (.int .i64 e.side) := hc 1 _ rfl
      have c2 : wr.cell? ⟨g, o + j * 5 + 2, none⟩ = some (.int .i64 e.path) := hc 2 _ rfl
      have c3 : wr.cell? ⟨g, o + j * 5 + 3, none⟩ = some (.int .u64 e.clock) := hc 3 _ rfl
      have c4 : wr.cell? ⟨g, o + j * 5 + 4, none⟩ = some (.slice e.fa e.bs.length e.fc) := hc 4 _ rfl
      have hLl : L.length = j := by
        have := congrArg List.length hI.view
        simp at this
        omega
      clear hc hk he hI
      go_upto_region 5 with fail
      refine wp_world fun wq HWq => ?_
      obtain ⟨q, hq⟩ : ∃ q, wr.heap.size = q := ⟨_, rfl⟩
      have hRq : Row wq q (ecells e) 33 := by rw [HWq.out, ← hq]; exact Row.new wr _ 33
      have hbq : Below wr.heap.size wr wq := by rw [HWq.out]; exact below_new wr _
      rw [hq]
      have hbase : b ≤ wr.heap.size := by have := HI.out.below.size; have := HBB.out; omega
      have HOKq := hid (HOK.out.kept hbq)
      have HCP := hid (copy_any (cap := e.fc) HOKq.out.at_ rfl HOKq.out.len HOKq.out.nil)
      have d4 := hRq.cell 4 _ rfl
      have HRq := hid hRq
      clear c0 c1 c2 c3 c4 HWq hRq
      have hq2 : b ≤ q := by omega
      have hql : q < wq.heap.size := HRq.out.lt
      go_upto_region 6 with (go_at_call 17; refine HCP.out.mono ?_; rintro en w6 ⟨v6, rfl, hO6, hB6⟩; obtain ⟨a6, c6, rfl, hy6, -, -, hz6, -⟩ := ownBy_shape hO6; have hR6 := HRq.out.kept hB6 HRq.out.lt; have f4 := hR6.frozen 4; have d4' := hR6.cell 4 _ rfl; clear d4)
      have hR7 : Row (w6.setCell ⟨q, 4, none⟩ (.slice a6 e.bs.length c6)) q (ecells ⟨e.what, e.side, e.path, e.clock, a6, c6, e.bs⟩) 33 := hR6.set 4 _
      have hF7 : Fr (fun k => k = q) w6 (w6.setCell ⟨q, 4, none⟩ (.slice a6 e.bs.length c6)) := (Fr.refl (fun k => k = q) w6).setCell q 4 _ (.inl rfl)
      have hb6 : Below wr.heap.size wr w6 := hbq.trans (hB6.mono hbq.size)
      have hb7 : Below wr.heap.size wr (w6.setCell ⟨q, 4, none⟩ (.slice a6 e.bs.length c6)) := hb6.trans (hF7.below (fun x e => by omega) hb6.size)
      have hO7 := hF7.own hO6 (fun g e' e => own_row hO6 hR6 (by decide) (e'.trans (by rw [e])))
      have HI7 : Hid (EvsOwn (w6.setCell ⟨q, 4, none⟩ (.slice a6 e.bs.length c6)) b u3 L) := HI.out.own.kept hb7
      have HB7 : Hid (Below b w (w6.setCell ⟨q, 4, none⟩ (.slice a6 e.bs.length c6))) := HI.out.below.trans (hb7.mono hbase)
      have HO7 := hid (own_less hO7 (show b ≤ wq.heap.size by omega))
      have d0 := hR7.cell 0 _ rfl
      have d1 := hR7.cell 1 _ rfl
      have d2 := hR7.cell 2 _ rfl
      have d3 := hR7.cell 3 _ rfl
      have d4 := hR7.cell 4 _ rfl
      have hbs7 : b ≤ (w6.setCell ⟨q, 4, none⟩ (.slice a6 e.bs.length c6)).heap.size := Nat.le_trans hbase hb7.size
      clear hR7 hF7 hb7 hb6 hO7 hO6 hB6 hbq hR6 f4 d4' hy6 hz6 HCP HOKq HRq
      generalize w6.setCell ⟨q, 4, none⟩ (.slice a6 e.bs.length c6) = w7 at *
      have HVW := hid HI.out.view
      have HCK := hid HI.out.ck
      clear HI
      have hLn : L.length + 1 ≤ 2513169434916 := by omega
      go_wp2_with (at_builtin; refine wpAppendE (.tmp 16) (.tmp 18) rfl rfl (L := L) rfl (own_below HI7.out.row (below_new _ _)) (Nat.le_trans hbs7 (below_new _ _).size) rfl (e := ⟨e.what, e.side, e.path, e.clock, a6, c6, e.bs⟩) (Row.new w7 (ecells ⟨e.what, e.side, e.path, e.clock, a6, c6, e.bs⟩) 33) hLn ?_; intro w9 v9 hO9 hg9)
      go_roundw
      case rel =>
        have hba := below_new w7 (.cells (ecells ⟨e.what, e.side, e.path, e.clock, a6, c6, e.bs⟩).toArray 33)
        have hI8 := HI7.out.kept hba
        have hO8 := own_below HO7.out hba
        have hF9 : Fr (fun k => u3.ownBlock = some k) (w7.alloc (.cells (ecells ⟨e.what, e.side, e.path, e.clock, a6, c6, e.bs⟩).toArray 33)) w9 := Fr.of_grown hg9.out.1 (fun k e => .inl e)
        refine ⟨j + 1, L ++ [⟨e.what, e.side, e.path, e.clock, a6, c6, e.bs⟩], by go_num, by omega, ⟨⟨hO9.out, fun x hx => ?_⟩, ?_, fun x hx => ?_, ?_⟩⟩
        · rcases List.mem_append.1 hx with hx | hx
          · exact hF9.own (hI8.by_ x hx) (fun g e' e => own_two (hI8.by_ x hx) hI8.row (by decide) e' e)
          · simp at hx
            subst hx
            exact hF9.own hO8 (fun g e' e => own_two hO8 hI8.row (by decide) e' e)
        · rw [List.take_succ_eq_append_getElem hjl, List.map_append, List.map_append, HVW.out, (List.getElem?_eq_some_iff.1 HLE.out).2]
          rfl
        · rcases List.mem_append.1 hx with hx | hx
          · exact HCK.out x hx
          · simp at hx
            subst hx
            exact ⟨HOK.out.c0, HOK.out.c1, HOK.out.len⟩
        · exact (HB7.out.trans (hba.mono hbs7)).trans (hF9.below (fun g e => own_ge hI8.row e) (Nat.le_trans hbs7 hba.size))
      case measure => simp [intOf]; omega
    · obtain rfl : j = l.length := by omega
      have hji : ¬ (l.length : Int) < (l.length : Int) := by omega
      clear hI
      go_wp2_with fail
      go_ret
      exact ⟨_, rfl, L, HI.out⟩
end Go.Proofs.Ytgfefopihkiihaa
