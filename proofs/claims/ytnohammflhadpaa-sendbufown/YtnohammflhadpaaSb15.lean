import Derived.Test.YtnohammflhadpaaSb14
import Derived.Deep.RegionLaw
namespace Go.Proofs.Ytnohammflhadpaa
open Go.RowKit Go.Maps Go.Sort
set_option maxRecDepth 100000

/-- 'append' of one chunk inside a statement that draws its order. -/
theorem step_app {w : World} {ops : Array Oper} {o : Oper} {act : Act} {K : Act → World → Prop} {Q : Exit → Act → World → Prop} {E : Prop} (hgd : o.guard = none) (d x : Operand) (ho : o.op = .call { callee := .builtin .append, args := #[d, x], argTypes := #[72, 72] })
    {a : Option Addr} {cap N : Nat} (hd : act.eval d = .slice a N cap) {L : List Ck} (hL : L.length = N) (hA : CksAt w a L) (hO : CkOwn w a cap) (hlc : N ≤ cap) (hN : N ≤ 65536) (hcm : cap ≤ maxLen) (hz : a = none → N = 0 ∧ cap = 0) (c : Ck) {bx : Nat} (hx : act.eval x = .slice (some ⟨bx, 0, none⟩) 1 1) (hbx : Row w bx c.cells 78)
    (h : ∀ a' cap' w', CksAt w' a' (L ++ [c]) → CkOwn w' a' cap' → N + 1 ≤ cap' → cap' ≤ maxLen → ((a' = a ∧ cap' = cap ∧ ∃ g o, a = some ⟨g, o, none⟩ ∧ Fr (fun x => x = g) w w') ∨ (a' = some ⟨w.heap.size, 0, none⟩ ∧ Below w.heap.size w w')) → K (act.put o.dst (.slice a' (N + 1) cap')) w') :
    if Region.wanted o (yielded ops act.tmps) = true then Oper.wp Try.prog o act w K Q else E := by
  have hw : Region.wanted o (yielded ops act.tmps) = true := by simp [Region.wanted, hgd]
  rw [if_pos hw]
  obtain ⟨a', cap', w', hrun, h1, h2, h3, h4, h5⟩ := run_app hL hA hO hlc hN hcm hz c hbx o.type
  unfold Oper.wp
  simp [execOp, ho, resolve, invoke, builtin, hd, hx, hrun, Result.andThen]
  exact h a' cap' w' h1 h2 h3 h4 h5
theorem SbW.nil_of {w : World} {p : Nat} {F : Sb} {a : Option Addr} {cap : Nat} (h : SbW w p F a cap) : a = none → F.L.length = 0 ∧ cap = 0 := fun e => by
  subst e
  rcases h.own with e | ⟨g, o, arr, e, _⟩
  · have := h.r.lc
    omega
  · cases e
/-- What Close turns, and where the list lies then. -/
def ClFr (a a' : Option Addr) (p : Nat) (w w' : World) : Prop := Fr (fun x => x = p ∨ ∃ o, a = some ⟨x, o, none⟩) w w' ∧ ∀ g o, a' = some ⟨g, o, none⟩ → (∃ o', a = some ⟨g, o', none⟩) ∨ w.heap.size ≤ g
set_option maxHeartbeats 2000000 in
theorem close_ok {w : World} {p : Nat} {F : Sb} {a : Option Addr} {cap : Nat} (h : SbW w p F a cap) (hc : F.closed = false) (hn : F.L.length ≤ 65536) (ha : F.acked ≤ F.end_) (hlt : ∀ d ∈ F.L, ∀ g o, d.a = some ⟨g, o, none⟩ → g < w.heap.size) :
    Calls Try.prog 12 #[.pointer (some ⟨p, 0, none⟩)] w fun e w' => e = .returned (.bool true) ∧ ∃ a' cap', SbW w' p F.shut a' cap' ∧ ClFr a a' p w w' := by
  have c6 : w.cell? ⟨p, 6, none⟩ = some (.bool false) := by rw [← hc]; exact h.r.row.cell 6 _ rfl
  have f6 := h.r.row.frozen 6
  have H := hid h
  have HC := hid hc
  have HA := hid ha
  have HLT := hid hlt
  obtain ⟨N, hN⟩ : ∃ N, F.L.length = N := ⟨_, rfl⟩
  have HN := hid hN
  have hni : (N : Int) ≤ 65536 := by omega
  clear h hc ha hN hlt
  go_enter Try.func12, Try.ntmps12
  go_upto_region 4 with fail
  refine wp_world fun W HW => ?_
  have H1 : Hid (SbW W p F.close1 a cap ∧ Fr (fun x => x = p) w W) := by
    show _ ∧ _
    rw [HW.out]
    exact H.out.field rfl rfl (Sb.close1_ok H.out.r.ok)
  clear HW c6 f6
  have b7 : W.cell? ⟨p, 7, none⟩ = some (.slice a N cap) := by rw [← HN.out]; exact H1.out.1.r.row.cell 7 _ rfl
  have b4 : W.cell? ⟨p, 4, none⟩ = some (.int .u64 F.end_) := H1.out.1.r.row.cell 4 _ rfl
  have hbd : ∀ w, (Instr.build 78 #[(0, .int .u64 F.end_), (2, .bool true)]).run Try.prog w = .ok (.agg #[.int .u64 F.end_, .slice none 0 0, .bool true, .int .u8 0, .bool false, .bool false]) w := fun _ => by kernel_rfl
  have HB : Hid (∀ o, Below W.heap.size W (W.alloc o).drew) := fun o => ((Below.refl _ _).alloc (Nat.le_refl _) o).drew
  have HBX : Hid (Row (W.alloc (.cells #[.int .u64 F.end_, .slice none 0 0, .bool true, .int .u8 0, .bool false, .bool false] 78)).drew W.heap.size (endCk F.end_).cells 78) := ⟨(Row.new' W _ (endCk F.end_).cells 78 _ rfl rfl).at_⟩
  have b7x : ∀ o, (W.alloc o).drew.cell? ⟨p, 7, none⟩ = some (.slice a N cap) := fun o => cell_kept (HB.out o) b7
  have HAP : Hid (∀ wx, Below W.heap.size W wx → ∀ a' cap' w', CksAt w' a' (F.L ++ [endCk F.end_]) → CkOwn w' a' cap' → N + 1 ≤ cap' → cap' ≤ maxLen → ((a' = a ∧ cap' = cap ∧ ∃ g o, a = some ⟨g, o, none⟩ ∧ Fr (fun x => x = g) wx w') ∨ (a' = some ⟨wx.heap.size, 0, none⟩ ∧ Below wx.heap.size wx w')) →
      (w'.cell? ⟨p, 7, none⟩ = some (.slice a N cap) ∧ w'.frozen? ⟨p, 7, none⟩ = false) ∧ SbW (w'.setCell ⟨p, 7, none⟩ (.slice a' (N + 1) cap')) p F.shut a' cap' ∧ ClFr a a' p w (w'.setCell ⟨p, 7, none⟩ (.slice a' (N + 1) cap'))) := fun wx hwx a' cap' w' h1 h2 h3 h4 h5 => by
    have hx := H1.out.1.kept hwx
    have hpl : p < w.heap.size := H.out.r.row.lt
    have hr : Row w' p (F.close1.cells (.slice a F.L.length cap)) 74 := by
      rcases h5 with ⟨_, _, g, o, ea, hf⟩ | ⟨_, hb⟩
      · refine hf.row hx.r.row (fun e => ?_)
        subst e
        rcases hx.own with e3 | ⟨g', o', arr, e3, hg, _⟩
        · omega
        · rw [ea] at e3
          cases e3
          have := hx.r.row.at_.symm.trans hg
          simp at this
      · exact hx.r.row.kept hb hx.r.row.lt
    have hwlt : ∀ d ∈ F.L, ∀ g o, d.a = some ⟨g, o, none⟩ → g < wx.heap.size := fun d hd g o e => by
      have e1 := HLT.out d hd g o e
      have e2 := H1.out.2.size
      have e3 := hwx.size
      omega
    have hq := hx.push (G := F.shut) (c := endCk F.end_) rfl rfl (Sb.shut_ok H.out.r.ok HC.out (by have := HN.out; omega) HA.out) h1 h2 (by have e0 : F.close1.L.length = N := HN.out; omega) h4 h5 (fun k hk => absurd hk (Nat.not_lt_zero _)) (fun g o e => by cases e) hwlt
    have e0 : F.close1.L.length = N := HN.out
    rw [e0] at hq
    refine ⟨⟨by rw [← HN.out]; exact hr.cell 7 _ rfl, hr.frozen 7⟩, hq.1, ?_⟩
    have f1 : Fr (fun x => x = p ∨ ∃ o, a = some ⟨x, o, none⟩) w wx := (H1.out.2.wider (fun x hx => .inl hx)).trans (Fr.of_below (S := fun _ => False) hwx (Nat.le_refl _)) (fun x hx => hx.elim)
    refine ⟨f1.trans hq.2 (fun x hx => .inl hx), fun g o e => ?_⟩
    rcases h5 with ⟨ea, _⟩ | ⟨ea, _⟩
    · exact .inl ⟨o, ea ▸ e⟩
    · rw [ea] at e
      cases e
      have e2 := H1.out.2.size
      have e3 := hwx.size
      exact .inr (by omega)
  have HST : Hid (∀ (ops : Array Oper) (o : Oper) (act : Act) (K : Act → World → Prop) (Q : Exit → Act → World → Prop) (E : Prop) (wx : World), Below W.heap.size W wx → Row wx W.heap.size (endCk F.end_).cells 78 → o.guard = none → o.op = .call { callee := .builtin .append, args := #[.tmp 14, .tmp 20], argTypes := #[72, 72] } → act.eval (.tmp 14) = .slice a N cap → act.eval (.tmp 20) = .slice (some ⟨W.heap.size, 0, none⟩) 1 1 →
      (∀ a' cap' w', w'.cell? ⟨p, 7, none⟩ = some (.slice a N cap) → w'.frozen? ⟨p, 7, none⟩ = false → SbW (w'.setCell ⟨p, 7, none⟩ (.slice a' (N + 1) cap')) p F.shut a' cap' ∧ ClFr a a' p w (w'.setCell ⟨p, 7, none⟩ (.slice a' (N + 1) cap')) → K (act.put o.dst (.slice a' (N + 1) cap')) w') →
      if Region.wanted o (yielded ops act.tmps) = true then Oper.wp Try.prog o act wx K Q else E) := fun ops o act K Q E wx hwx hrx hg ho hd hx h => by
    have e0 : F.close1.L.length = N := HN.out
    refine step_app hg (.tmp 14) (.tmp 20) ho hd (L := F.L) HN.out (H1.out.1.r.ck.kept hwx) ((H1.out.1.kept hwx).own) (by have := H1.out.1.r.lc; omega) (by omega) H1.out.1.r.cm (fun e => by have := H1.out.1.nil_of e; omega) (endCk F.end_) hx hrx (fun a' cap' w' h1 h2 h3 h4 h5 => ?_)
    have hq := HAP.out wx hwx a' cap' w' h1 h2 h3 h4 h5
    exact h a' cap' w' hq.1.1 hq.1.2 hq.2
  clear HAP
  go_region_law (refine HST.out _ _ _ _ _ _ _ (HB.out _) HBX.out rfl rfl (by simp [Act.eval]) (by simp [Act.eval]) ?_; intro a' cap' w' y7 z7 hQ; have HQ := hid hQ; clear hQ)
  all_goals (go_wp2_with fail; go_ret; exact ⟨rfl, _, _, HQ.out⟩)
end Go.Proofs.Ytnohammflhadpaa
