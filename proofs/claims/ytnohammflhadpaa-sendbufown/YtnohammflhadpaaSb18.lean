import Derived.Test.YtnohammflhadpaaSb17
import Derived.Deep.RegionLaw
namespace Go.Proofs.Ytnohammflhadpaa
open Go.RowKit Go.Maps Go.Sort
set_option maxRecDepth 100000

/-- The buffer when so many rounds have cut. -/
def Sb.cutT (F : Sb) (m g o : Nat) (bs : List (BitVec 8)) (t : Nat) : Sb := { F with end_ := F.end_ + (min (t * m) bs.length : Nat), L := F.L ++ cutCks m g t o F.end_ bs }
theorem Sb.cutT_next (F : Sb) {m : Nat} (g o : Nat) {bs : List (BitVec 8)} {t : Nat} (h : t * m < bs.length) : F.cutT m g o bs (t + 1) = (F.cutT m g o bs t).more ((bs.drop (t * m)).take m) (some ⟨g, o + t * m, none⟩) := by
  unfold Sb.cutT Sb.more
  rw [cutCks_snoc m g t o F.end_ bs h, Nat.succ_mul]
  have e1 : min (t * m) bs.length = t * m := by omega
  simp only [e1, List.append_assoc]
  congr 1
  simp
  omega
theorem Sb.cutT_zero (F : Sb) (m g o : Nat) (bs : List (BitVec 8)) : F.cutT m g o bs 0 = F := by unfold Sb.cutT; simp [cutCks]
theorem cutCks_len (m g : Nat) : ∀ (t o : Nat) (e : Int) (bs : List (BitVec 8)), (cutCks m g t o e bs).length ≤ t
  | 0, _, _, _ => Nat.le_refl _
  | t + 1, o, e, bs => by
    show (if bs = [] then [] else _).length ≤ _
    split
    · exact Nat.zero_le _
    · simp only [List.length_cons]; have := cutCks_len m g t (o + (bs.take m).length) (e + (bs.take m).length) (bs.drop m); omega
/-- What the loop keeps. -/
structure CutL (w wr : World) (p : Nat) (F : Sb) (a : Option Addr) (m g o : Nat) (bs : List (BitVec 8)) (t : Nat) (a' : Option Addr) (cap' : Nat) : Prop where
  sb : SbW wr p (F.cutT m g o bs t) a' cap'
  fr : Fr (fun x => x = p ∨ ∃ o, a = some ⟨x, o, none⟩) w wr
  by_ : BytesAt wr (some ⟨g, o, none⟩) bs
  ne : g ≠ p ∧ g < w.heap.size ∧ ∀ g' o', a' = some ⟨g', o', none⟩ → g ≠ g'
  ap : ∀ g' o', a' = some ⟨g', o', none⟩ → (∃ o, a = some ⟨g', o, none⟩) ∨ w.heap.size ≤ g'
  lt : ∀ d ∈ (F.cutT m g o bs t).L, ∀ g' o', d.a = some ⟨g', o', none⟩ → g' < w.heap.size
set_option maxHeartbeats 4000000 in
theorem cut_any {w : World} {p : Nat} {F : Sb} {a : Option Addr} {cap : Nat} (h : SbW w p F a cap) (hc : F.closed = false) (ha : F.acked ≤ F.end_) {g o : Nat} {bs : List (BitVec 8)} (hB : BytesAt w (some ⟨g, o, none⟩) bs) (N capx : Nat) (hN : bs.length = N) (hcx : N ≤ capx) (hcm : capx ≤ maxLen)
    (hf : (N : Int) ≤ F.room - (F.end_ - min F.acked F.end_)) (he : F.end_ + N ≤ 4611686018427387904) (hn : F.L.length + N ≤ 65536) (hg : g ≠ p ∧ g < w.heap.size ∧ ∀ g' o', a = some ⟨g', o', none⟩ → g ≠ g') (hlt : ∀ d ∈ F.L, ∀ g o, d.a = some ⟨g, o, none⟩ → g < w.heap.size) (m : Nat) (hm : F.mss = m) :
    Calls Try.prog 37 #[.pointer (some ⟨p, 0, none⟩), .slice (some ⟨g, o, none⟩) N capx] w fun e w' => e = .returned (.tuple #[]) ∧ ∃ t a' cap', N ≤ t * m ∧ CutL w w' p F a m g o bs t a' cap' := by
  have hm0 : 1 ≤ m := by have := h.r.ok.m0; omega
  have hm1 : m ≤ 1024 := by have := h.r.ok.m1; omega
  have HI0 : Hid (CutL w w p F a m g o bs 0 a cap) := ⟨by rw [Sb.cutT_zero]; exact h, Fr.refl _ _, hB, hg, fun g' o' e => .inl ⟨o', e⟩, by rw [Sb.cutT_zero]; exact hlt⟩
  have HC := hid hc
  have HA := hid ha
  have HN := hid hN
  have HF := hid hf
  have HE := hid he
  have HM := hid hm
  have HNN := hid hn
  have hNi : (N : Int) ≤ 65536 := by omega
  have hmi : (m : Int) ≤ 1024 := by omega
  clear h hc ha hB hN hf he hg hlt hm hn
  go_enter Try.func37, Try.ntmps37
  go_wp2_with fail
  go_loopw [1, 4] (fun s1 _ wr => ∃ (t k : Nat) (a' : Option Addr) (cap' : Nat), min (t * m) N = k ∧ (∃ ax, s1 = .slice ax (N - k) (capx - k) ∧ (k < N → ax = some ⟨g, o + k, none⟩)) ∧ CutL w wr p F a m g o bs t a' cap') (fun s1 _ _ => (match s1 with | .slice _ n _ => n | _ => 0))
  case atStart => exact ⟨0, 0, a, cap, by simp, ⟨_, rfl, fun _ => rfl⟩, HI0.out⟩
  case round =>
    obtain ⟨t, k, a', cap', hk, ⟨ax, rfl, hax⟩, hI⟩ := hrel
    have HI := hid hI
    clear hI HI0
    by_cases hlt : k < N
    · obtain rfl : ax = some ⟨g, o + k, none⟩ := hax hlt
      have hkt : k = t * m := by omega
      obtain ⟨q, hq⟩ : ∃ q, min (N - k) m = q := ⟨_, rfl⟩
      have hq0 : 1 ≤ q := by omega
      have hqN : k + q ≤ N := by omega
      have hqi : min ((N - k : Nat) : Int) (m : Int) = q := by omega
      obtain ⟨G, hG⟩ : ∃ G, F.cutT m g o bs t = G := ⟨_, rfl⟩
      have hGe : G.end_ = F.end_ + k := by rw [← hG]; show F.end_ + _ = _; rw [HN.out, hk]
      have hGm : G.mss = m := by rw [← hG]; exact HM.out
      obtain ⟨P, hP⟩ : ∃ P, (bs.drop k).take m = P := ⟨_, rfl⟩
      have hPl : P.length = q := by rw [← hP]; have := HN.out; simp; omega
      have hGN : F.cutT m g o bs (t + 1) = G.more P (some ⟨g, o + k, none⟩) := by rw [← hG, ← hP, hkt]; exact Sb.cutT_next F g o (by have := HN.out; omega)
      have HS : Hid (SbW wr p G a' cap') := by show SbW _ _ _ _ _; rw [← hG]; exact HI.out.sb
      have HLT : Hid (∀ d ∈ G.L, ∀ g' o', d.a = some ⟨g', o', none⟩ → g' < w.heap.size) := by show ∀ d ∈ G.L, _; rw [← hG]; exact HI.out.lt
      have hGl : G.L.length ≤ 65536 := by
        rw [← hG]
        show (F.L ++ _).length ≤ _
        have h1 := cutCks_len m g t o F.end_ bs
        have h2 : t ≤ t * m := Nat.le_mul_of_pos_right t (by omega)
        have h3 := HNN.out
        rw [List.length_append]
        omega
      have hGa : G.acked = F.acked ∧ G.closed = F.closed ∧ G.room = F.room := by rw [← hG]; exact ⟨rfl, rfl, rfl⟩
      obtain ⟨M, hM⟩ : ∃ M, G.L.length = M := ⟨_, rfl⟩
      have b7 : wr.cell? ⟨p, 7, none⟩ = some (.slice a' M cap') := by rw [← hM]; exact HS.out.r.row.cell 7 _ rfl
      have b4 : wr.cell? ⟨p, 4, none⟩ = some (.int .u64 G.end_) := HS.out.r.row.cell 4 _ rfl
      have b1 : wr.cell? ⟨p, 1, none⟩ = some (.int .i64 m) := by rw [← hGm]; exact HS.out.r.row.cell 1 _ rfl
      have hbd : ∀ w, (Instr.build 78 #[(0, .int .u64 G.end_), (1, .slice (some ⟨g, o + k, none⟩) q q)]).run Try.prog w = .ok (.agg #[.int .u64 G.end_, .slice (some ⟨g, o + k, none⟩) q q, .bool false, .int .u8 0, .bool false, .bool false]) w := fun _ => by kernel_rfl
      have HOK : Hid ((G.more P (some ⟨g, o + k, none⟩)).Ok) := Sb.more_ok HS.out.r.ok (hGa.2.1.trans HC.out) (fun e => by rw [e] at hPl; simp at hPl; omega) (by rw [hPl, hGm]; omega) (by have := HF.out; have := HA.out; rw [hPl, hGa.2.2, hGa.1, hGe]; omega) (by have := HE.out; rw [hPl, hGe]; omega) (by have := HA.out; rw [hGa.1, hGe]; omega) hGl _
      have he0 : 0 ≤ G.end_ := by have := HS.out.r.ok.h0; have := HS.out.r.ok.h1; omega
      have he1 : G.end_ + q ≤ 4611686018427387904 := by have := HE.out; omega
      have HB : Hid (∀ o, Below wr.heap.size wr (wr.alloc o).drew) := fun o => ((Below.refl _ _).alloc (Nat.le_refl _) o).drew
      have HBX : Hid (Row (wr.alloc (.cells #[.int .u64 G.end_, .slice (some ⟨g, o + k, none⟩) q q, .bool false, .int .u8 0, .bool false, .bool false] 78)).drew wr.heap.size (dataCk G.end_ P (some ⟨g, o + k, none⟩)).cells 78) := ⟨(Row.new' wr _ (dataCk G.end_ P (some ⟨g, o + k, none⟩)).cells 78 _ rfl (by show [Value.int .u64 G.end_, .slice (some ⟨g, o + k, none⟩) P.length P.length, .bool false, .int .u8 0, .bool false, .bool false].toArray = _; rw [hPl])).at_⟩
      have b7x : ∀ o, (wr.alloc o).drew.cell? ⟨p, 7, none⟩ = some (.slice a' M cap') := fun o => cell_kept (HB.out o) b7
      have HAP : Hid (∀ wx, Below wr.heap.size wr wx → ∀ a2 cap2 w', CksAt w' a2 (G.L ++ [dataCk G.end_ P (some ⟨g, o + k, none⟩)]) → CkOwn w' a2 cap2 → M + 1 ≤ cap2 → cap2 ≤ maxLen → ((a2 = a' ∧ cap2 = cap' ∧ ∃ g o, a' = some ⟨g, o, none⟩ ∧ Fr (fun x => x = g) wx w') ∨ (a2 = some ⟨wx.heap.size, 0, none⟩ ∧ Below wx.heap.size wx w')) →
          ((w'.cell? ⟨p, 7, none⟩ = some (.slice a' M cap') ∧ w'.frozen? ⟨p, 7, none⟩ = false) ∧ (w'.setCell ⟨p, 7, none⟩ (.slice a2 (M + 1) cap2)).cell? ⟨p, 4, none⟩ = some (.int .u64 G.end_) ∧ (w'.setCell ⟨p, 7, none⟩ (.slice a2 (M + 1) cap2)).frozen? ⟨p, 4, none⟩ = false) ∧
          CutL w ((w'.setCell ⟨p, 7, none⟩ (.slice a2 (M + 1) cap2)).setCell ⟨p, 4, none⟩ (.int .u64 (G.end_ + q))) p F a m g o bs (t + 1) a2 cap2) := fun wx hwx a2 cap2 w' h1 h2 h3 h4 h5 => by
        have hx := HS.out.kept hwx
        have hne := HI.out.ne
        have hsz : w.heap.size ≤ wx.heap.size := Nat.le_trans HI.out.fr.size hwx.size
        have hr : Row w' p (G.cells (.slice a' G.L.length cap')) 74 := by
          rcases h5 with ⟨_, _, g3, o3, ea, hf⟩ | ⟨_, hb⟩
          · refine hf.row hx.r.row (fun e => ?_)
            subst e
            rcases hx.own with e3 | ⟨g', o', arr, e3, hg, _⟩
            · omega
            · rw [ea] at e3
              cases e3
              have := hx.r.row.at_.symm.trans hg
              simp at this
          · exact hx.r.row.kept hb hx.r.row.lt
        have r7 := hr.set 7 (.slice a2 (M + 1) cap2)
        have r4 : Row ((w'.setCell ⟨p, 7, none⟩ (.slice a2 (M + 1) cap2)).setCell ⟨p, 4, none⟩ (.int .u64 (G.end_ + q))) p ((G.more P (some ⟨g, o + k, none⟩)).cells (.slice a2 (G.L.length + 1) cap2)) 74 := by
          have := r7.set 4 (.int .u64 (G.end_ + q))
          rw [hM]
          have e4 : (G.more P (some ⟨g, o + k, none⟩)).end_ = G.end_ + q := by show G.end_ + (P.length : Int) = _; rw [hPl]
          have e5 : (G.more P (some ⟨g, o + k, none⟩)).cells (.slice a2 (M + 1) cap2) = ((G.cells (.slice a' G.L.length cap')).set 7 (.slice a2 (M + 1) cap2)).set 4 (.int .u64 (G.end_ + q)) := by unfold Sb.cells; rw [e4]; rfl
          rw [e5]
          exact this
        have hfr2 : Fr (fun x => x = p) w' ((w'.setCell ⟨p, 7, none⟩ (.slice a2 (M + 1) cap2)).setCell ⟨p, 4, none⟩ (.int .u64 (G.end_ + q))) := ⟨rfl, rfl, rfl, by simp [World.setCell], fun x _ hn => (Below.heap_setCell _ _ _ x hn).trans (Below.heap_setCell _ _ _ x hn)⟩
        have hbw : BytesAt wx (some ⟨g, o, none⟩) bs := HI.out.by_.kept hwx
        have hq2 := hx.pushed (G := G.more P (some ⟨g, o + k, none⟩)) (c := dataCk G.end_ P (some ⟨g, o + k, none⟩)) rfl r4 hfr2 HOK.out h1 h2 (by rw [hM]; exact h3) h4 h5
          (fun j hj => by
            have hj' : j < q := by rw [← hPl]; exact hj
            obtain ⟨g3, o3, e3, c3⟩ := hbw (k + j) (by have := HN.out; omega)
            cases e3
            refine ⟨g, o + k, rfl, ?_⟩
            have e4 : (dataCk G.end_ P (some ⟨g, o + k, none⟩)).bs[j] = bs[k + j]'(by have := HN.out; omega) := by
              show P[j]'(by rw [hPl]; exact hj') = _
              simp only [← hP, List.getElem_take, List.getElem_drop]
            rw [e4, Nat.add_assoc]
            exact c3)
          (fun g3 o3 e3 => by cases e3; exact ⟨hne.1, Nat.lt_of_lt_of_le hne.2.1 hsz, hne.2.2⟩)
          (fun d hd g3 o3 e3 => Nat.lt_of_lt_of_le (HLT.out d hd g3 o3 e3) hsz)
        refine ⟨⟨⟨by rw [← hM]; exact hr.cell 7 _ rfl, hr.frozen 7⟩, r7.cell 4 _ rfl, r7.frozen 4⟩, ?_⟩
        refine ⟨by rw [hGN]; exact hq2.1, (HI.out.fr.trans (Fr.of_below (S := fun _ => False) hwx (Nat.le_refl _)) (fun x hx => hx.elim)).trans hq2.2 (fun x hx => ?_), fun j hj => ?_, ⟨hne.1, hne.2.1, fun g' o' e => ?_⟩, fun g' o' e => ?_, fun d hd g' o' e => ?_⟩
        · rcases hx with e | ⟨o3, e⟩
          · exact .inl (.inl e)
          · rcases HI.out.ap x o3 e with e2 | e2
            · exact .inl (.inr e2)
            · exact .inr e2
        · obtain ⟨g3, o3, e3, c3⟩ := hbw j hj
          cases e3
          exact ⟨g, o, rfl, hq2.2.cell c3 (fun e => by rcases e with e | ⟨o4, e⟩; exact hne.1 e; exact hne.2.2 _ _ e rfl)⟩
        · rcases h5 with ⟨e1, _⟩ | ⟨e1, _⟩
          · rw [e1] at e; exact hne.2.2 _ _ e
          · rw [e1] at e; cases e; have := hne.2.1; omega
        · rcases h5 with ⟨e1, _⟩ | ⟨e1, _⟩
          · rw [e1] at e; exact HI.out.ap _ _ e
          · rw [e1] at e; cases e; exact .inr hsz
        · rw [hGN] at hd
          have hd' : d ∈ G.L ++ [dataCk G.end_ P (some ⟨g, o + k, none⟩)] := hd
          rcases List.mem_append.1 hd' with e2 | e2
          · exact HLT.out d e2 g' o' e
          · simp at e2
            subst e2
            cases e
            exact hne.2.1
      have HST : Hid (∀ (ops : Array Oper) (oo : Oper) (act : Act) (K : Act → World → Prop) (Q : Exit → Act → World → Prop) (E : Prop) (wx : World), Below wr.heap.size wr wx → Row wx wr.heap.size (dataCk G.end_ P (some ⟨g, o + k, none⟩)).cells 78 → oo.guard = none → oo.op = .call { callee := .builtin .append, args := #[.tmp 19, .tmp 29], argTypes := #[72, 72] } → act.eval (.tmp 19) = .slice a' M cap' → act.eval (.tmp 29) = .slice (some ⟨wr.heap.size, 0, none⟩) 1 1 →
          (∀ a2 cap2 w', w'.cell? ⟨p, 7, none⟩ = some (.slice a' M cap') → w'.frozen? ⟨p, 7, none⟩ = false → (w'.setCell ⟨p, 7, none⟩ (.slice a2 (M + 1) cap2)).cell? ⟨p, 4, none⟩ = some (.int .u64 G.end_) → (w'.setCell ⟨p, 7, none⟩ (.slice a2 (M + 1) cap2)).frozen? ⟨p, 4, none⟩ = false → CutL w ((w'.setCell ⟨p, 7, none⟩ (.slice a2 (M + 1) cap2)).setCell ⟨p, 4, none⟩ (.int .u64 (G.end_ + q))) p F a m g o bs (t + 1) a2 cap2 → K (act.put oo.dst (.slice a2 (M + 1) cap2)) w') →
          if Region.wanted oo (yielded ops act.tmps) = true then Oper.wp Try.prog oo act wx K Q else E) := fun ops oo act K Q E wx hwx hrx hg ho hd hx h => by
        refine step_app hg (.tmp 19) (.tmp 29) ho hd (L := G.L) hM (HS.out.r.ck.kept hwx) ((HS.out.kept hwx).own) (by have := HS.out.r.lc; omega) (by omega) HS.out.r.cm (fun e => by have := HS.out.nil_of e; omega) (dataCk G.end_ P (some ⟨g, o + k, none⟩)) hx hrx (fun a2 cap2 w' h1 h2 h3 h4 h5 => ?_)
        have hq := HAP.out wx hwx a2 cap2 w' h1 h2 h3 h4 h5
        exact h a2 cap2 w' hq.1.1.1 hq.1.1.2 hq.1.2.1 hq.1.2.2 hq.2
      clear HAP HOK hGN hP hPl hGm hGa hGl hM
      have l0 : (0 : Int) < ((N - k : Nat) : Int) := by omega
      have l1 : (q : Int) ≤ ((capx - k : Nat) : Int) := by omega
      have l2 : (q : Int) ≤ ((N - k : Nat) : Int) := by omega
      have l3 : q ≤ capx - k := by omega
      have l4 : q ≤ N - k := by omega
      have l5 : N - k - q = N - (k + q) := by omega
      have l6 : capx - k - q = capx - (k + q) := by omega
      have l7 : ((capx - k : Nat) : Int) ≤ 9223372036854775807 := by unfold maxLen at hcm; omega
      have l8 : ((N - k : Nat) : Int) ≤ 65536 := by omega
      have hw4 : IntKind.u64.wrap (G.end_ + q) = G.end_ + q := by rw [IntKind.wrap_u64]; omega
      have HK2 : Hid (min ((t + 1) * m) N = k + q) := by show _ = _; rw [Nat.succ_mul]; omega
      clear hax hk hkt hq hGe
      go_upto_region 2 with fail
      go_region_law (refine HST.out _ _ _ _ _ _ _ (HB.out _) HBX.out rfl rfl (by simp [Act.eval]) (by simp [Act.eval]) ?_; intro a2 cap2 w' y7 z7 y4 z4 hQ; have HQ := hid hQ; clear hQ)
      all_goals
        clear HST HB HBX b7x b7 b4 b1 hbd
        by_cases hcq : capx - k = q
        · go_wp2_with fail
          go_roundw
          case rel => exact ⟨t + 1, k + q, a2, cap2, HK2.out, ⟨_, by first | rfl | (rw [← l5, ← l6]; done) | (congr 1; omega) | (simp; omega), fun e => by omega⟩, HQ.out⟩
          case measure => simp; omega
        · go_wp2_with fail
          go_roundw
          case rel => exact ⟨t + 1, k + q, a2, cap2, HK2.out, ⟨_, by first | rfl | (rw [← l5, ← l6]), fun _ => by first | rfl | (rw [Nat.add_assoc]) | simp [Nat.add_assoc]⟩, HQ.out⟩
          case measure => simp; omega
    · obtain rfl : k = N := by omega
      have e0 : k - k = 0 := by omega
      rw [e0]
      have HE2 := hid (And.intro hk HI.out)
      clear hk HI
      go_wp2_with fail
      go_end0
      exact ⟨rfl, t, a', cap', by have := HE2.out.1; omega, HE2.out.2⟩
end Go.Proofs.Ytnohammflhadpaa
