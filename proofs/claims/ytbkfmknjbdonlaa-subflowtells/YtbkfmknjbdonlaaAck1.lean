import Derived.Test.YtbkfmknjbdonlaaAck0
import Derived.Test.YtbkfmknjbdonlaaRtSample
namespace Go.Proofs.Ytbkfmknjbdonlaa
open Go.RowKit Go.Maps
set_option maxRecDepth 100000

def lastAt (L : List It) : Int := (L.getLast?.map It.at_).getD 0
theorem lastAt_eq {L : List It} (h : L.length ≠ 0) : lastAt L = (L[L.length - 1]'(by omega)).at_ := by
  unfold lastAt
  rw [List.getLast?_eq_getElem?, List.getElem?_eq_getElem (by omega)]
  rfl
/-- What is acknowledged, and what is left of what was under way. -/
def Fl.ackd (F : Fl) (S : List Rg) : List It := F.U.filter (tb S)
def Fl.hear (F : Fl) (now : Int) (S : List Rg) : Fl :=
  { F with U := F.U.filter fun x => !tb S x, E := if (F.ackd S).length = 0 then F.E else F.E.sample (now - min (lastAt (F.ackd S)) now), mark := if (F.ackd S).length = 0 then F.mark else now }
def Fl.lost (F : Fl) (S : List Rg) : List It := (F.U.filter fun x => !tb S x).filter (lb (lastHi S))
def Fl.isCut (F : Fl) (S : List Rg) : Bool := cutB (F.lost S) F.line
def Fl.heard (F : Fl) (now : Int) (S : List Rg) : Fl :=
  { F.hear now S with U := (F.U.filter fun x => !tb S x).filter fun x => !lb (lastHi S) x, line := if F.isCut S = true then F.next else F.line }
theorem egHeard : ∀ args w, (callFunc 47 args).run Try.prog w = .ok (.enter 47 args) w := enters_of Try.func47 (by kernel_rfl) rfl
theorem egLost : ∀ args w, (callFunc 52 args).run Try.prog w = .ok (.enter 52 args) w := enters_of Try.func52 (by kernel_rfl) rfl
theorem View.only {w w' : World} {p : Nat} {a : Option Addr} {cap : Nat} {L : List Rg} {S : List Nat} (V : View w p a cap L) (ho : Only S w w') (hp : p ∉ S) (hg : ∀ g, a = some ⟨g, 0, none⟩ → g ∉ S) : View w' p a cap L :=
  ⟨ho.cell V.head hp, fun i h => by obtain ⟨g, h1, h2, h3⟩ := V.row i h; exact ⟨g, h1, ho.cell h2 (hg g h1), ho.cell h3 (hg g h1)⟩, V.le, V.cp, V.few, V.shape⟩
theorem i55 : (Try.prog.info? 55).map (·.size) = some 3 := by kernel_rfl
/-- What stands while an acknowledgement is heard. -/
structure Mid (w wt : World) (p b g q bx : Nat) (sa : Option Addr) (scap : Nat) (S : List Rg) (A : List It) (a1 : Option Addr) (cap1 : Nat) (F : Fl) : Prop where
  fl : FlowAt wt p b g F
  lt : p < w.heap.size ∧ b < w.heap.size ∧ g < w.heap.size
  box : wt.cell? ⟨bx, 0, none⟩ = some (.pointer (some ⟨q, 0, none⟩))
  view : View wt q sa scap S
  res : Row wt w.heap.size [.slice none 0 0, .slice none 0 0, .bool false] 55
  row : wt.ownsRow (w.heap.size + 1) 60 5 (.slice a1 A.length cap1) A.length (flatI A)
  only : Only [p, b, g] w wt
  ge : w.heap.size + 1 ≤ bx ∧ w.heap.size + 1 ≤ q ∧ ∀ x, sa = some ⟨x, 0, none⟩ → w.heap.size + 1 ≤ x
section
variable {w wt wu : World} {p b g q bx : Nat} {sa : Option Addr} {scap : Nat} {S : List Rg} {A : List It} {a1 : Option Addr} {cap1 : Nat} {F G : Fl}
theorem Mid.turn (m : Mid w wt p b g q bx sa scap S A a1 cap1 F) {T : List Nat} (ho : Only T wt wu) (hT : ∀ x ∈ T, x ∈ [p, b, g]) (fl : FlowAt wu p b g G) : Mid w wu p b g q bx sa scap S A a1 cap1 G := by
  obtain ⟨l1, l2, l3⟩ := m.lt
  obtain ⟨g1, g2, g3⟩ := m.ge
  have hn : ∀ x, w.heap.size ≤ x → x ∉ T := fun x hx hm => by
    have := hT x hm
    simp only [List.mem_cons, List.not_mem_nil, or_false] at this
    omega
  exact ⟨fl, m.lt, ho.cell m.box (hn _ (by simp only; omega)), m.view.only ho (hn _ (by omega)) (fun x e => hn _ (by have := g3 x e; omega)), ho.row m.res (hn _ (Nat.le_refl _)),
    own_only m.row ho (fun x e => hn _ (by have := own_ge m.row e; omega)), m.only.trans ho (fun x hx => .inl (hT x hx)), m.ge⟩
theorem Mid.below (m : Mid w wt p b g q bx sa scap S A a1 cap1 F) (hb : Below wt.heap.size wt wu) : Mid w wu p b g q bx sa scap S A a1 cap1 F :=
  m.turn (T := []) (Only.of_below hb (Nat.le_refl _)) (fun _ h => by cases h) (m.fl.kept hb)
end
set_option maxHeartbeats 4000000 in
theorem acked_any {w : World} {p b g : Nat} {F : Fl} (h : FlowAt w p b g F) (ok : F.Ok) {a : Option Addr} {cap : Nat} {L : List Rg} (C : Cells w a L) (hl : (L.length + 4) * 16 ≤ 140737488355328) (hw : ∀ r ∈ L, 0 ≤ r.1 ∧ r.2 ≤ 18446744073709551615)
    (hU : F.U.length * 40 ≤ 140737488355328) (hnx : F.next ≤ 4611686018427387904) (hat : ∀ x ∈ F.U, 0 ≤ x.at_) (now : Int) (hn0 : 0 ≤ now) (hn1 : now ≤ 18446744073709551615) :
    Calls Try.prog 27 #[.pointer (some ⟨p, 0, none⟩), .int .u64 now, .slice a L.length cap] w fun e w' => ∃ v1 v2 S B, Told L F.next S ∧ e = .returned (.agg #[v1, v2, .bool (F.isCut S)]) ∧ w'.ownsRow w.heap.size 60 5 v1 (F.ackd S).length (flatI (F.ackd S)) ∧
      (∀ x, v1.ownBlock = some x → x < B) ∧ w.heap.size ≤ B ∧ w'.ownsRow B 60 5 v2 (F.lost S).length (flatI (F.lost S)) ∧ FlowAt w' p b g (F.heard now S) ∧ Only [p, b, g] w w' := by
  have hb0 := below_grow (Below.refl w.heap.size w) (.cells #[.slice none 0 0, .slice none 0 0, .bool false] 55)
  have hS := sent_any (cap := cap) (h.kept hb0) ok (C.kept hb0) (by omega) hw
  have R0 := Row.new w [.slice none 0 0, .slice none 0 0, .bool false] 55
  have H := hid (h.kept hb0)
  have HB0 := hid hb0
  have HLT := hid (show p < w.heap.size ∧ b < w.heap.size ∧ g < w.heap.size from ⟨h.row.lt, World.ownsMap.lt h.map, Row.lt h.est⟩)
  have HR0 := hid R0
  have HOK := hid ok
  have HAT := hid hat
  clear h ok hw C hat hb0 R0
  have hz0 : (w.alloc (.cells #[.slice none 0 0, .slice none 0 0, .bool false] 55)).heap.size = w.heap.size + 1 := by simp
  obtain ⟨w0, hw0⟩ : ∃ w0, w0 = w.alloc (.cells #[.slice none 0 0, .slice none 0 0, .bool false] 55) := ⟨_, rfl⟩
  have hz1 : w0.heap.size = w.heap.size + 1 := by rw [hw0]; exact hz0
  have HR0' : Hid (Row w0 w.heap.size [.slice none 0 0, .slice none 0 0, .bool false] 55) := by rw [hw0]; exact HR0.out
  rw [← hw0] at H HB0 hS
  clear HR0 hz0
  go_enter Try.func27, Try.ntmps27
  go_wp2_with (first | (rw [← hw0]; clear hw0) | (go_at_call 46; refine hS.mono ?_; rintro e w1 ⟨q, rfl, v, S, hT, hSl, hO, hb⟩; have HT := hid hT; have HSL := hid hSl; have HO := hid hO; have HB1 := hid hb; have c0 := rcell_kept (below_grow (Below.refl w1.heap.size w1) (.cells #[.pointer (some ⟨q, 0, none⟩)] 73)) ((FlowAt.kept H.out hb).row.cell 0 _ rfl); clear hT hSl hO hb hS))
  have HBX := hid (below_grow (Below.refl w1.heap.size w1) (.cells #[.pointer (some ⟨q, 0, none⟩)] 73))
  have HFX := hid (FlowAt.kept (FlowAt.kept H.out HB1.out) HBX.out)
  have hbxc := box_cell w1 73 #[.pointer (some ⟨q, 0, none⟩)] 0 _ rfl
  obtain ⟨sa, scap, hsv, hV1⟩ := HO.out.set.view (by have := HSL.out; omega)
  have HVX := hid (hV1.kept HBX.out)
  have HSA : Hid (∀ x, sa = some ⟨x, 0, none⟩ → w.heap.size + 1 ≤ x) := fun x e => by have := HO.out.row x (by rw [hsv, e]; rfl); omega
  have HQ := hid (show w.heap.size + 1 ≤ q by have := HO.out.at_; omega)
  have hTk := take_one sortI_any HFX.out.map HOK.out.rise (fun x hx => by have := HOK.out.nums x hx; omega) hU 47 (.pointer (some ⟨w1.heap.size, 0, none⟩)) (tb S) egHeard (fun W x _ hb => heardf_any (rcell_kept hb hbxc) (HVX.out.kept hb) HT.out.fit x)
  have HSZ1 := hid (show w.heap.size + 1 ≤ w1.heap.size by have := HB1.out.size; omega)
  have HRX := hid ((HR0'.out.kept HB1.out HR0'.out.lt).alloc (.cells #[.pointer (some ⟨q, 0, none⟩)] 73))
  have HBA := hid (show Below w.heap.size w (w1.alloc (.cells #[.pointer (some ⟨q, 0, none⟩)] 73)) from (HB0.out.trans ((HB1.out.trans (HBX.out.mono HB1.out.size)).mono (by omega))))
  have HWX := hid (show w.heap.size + 1 ≤ (w1.alloc (.cells #[.pointer (some ⟨q, 0, none⟩)] 73)).heap.size from Nat.le_trans HSZ1.out HBX.out.size)
  have HM0 : Hid (∀ w2 (A : List It) a1 cap1 (G : Fl), FlowAt w2 p b g G → w2.ownsRow (w1.alloc (.cells #[.pointer (some ⟨q, 0, none⟩)] 73)).heap.size 60 5 (.slice a1 A.length cap1) A.length (flatI A) → Only [b] (w1.alloc (.cells #[.pointer (some ⟨q, 0, none⟩)] 73)) w2 → Mid w w2 p b g q w1.heap.size sa scap S A a1 cap1 G) := fun w2 A a1 cap1 G hf hr ho => by
    obtain ⟨l1, l2, l3⟩ := HLT.out
    have hn : ∀ x, w.heap.size ≤ x → x ∉ [b] := fun x hx hm => by simp at hm; omega
    exact ⟨hf, HLT.out, ho.cell hbxc (hn _ (by have := HSZ1.out; simp only; omega)), HVX.out.only ho (hn _ (by have := HQ.out; omega)) (fun x e => hn _ (by have := HSA.out x e; omega)), ho.row HRX.out (hn _ (Nat.le_refl _)),
      own_mono hr HWX.out, ((Only.of_below HBA.out (Nat.le_refl _)).trans ho (by simp)), ⟨HSZ1.out, HQ.out, HSA.out⟩⟩
  clear hV1 hsv HO HVX
  obtain ⟨A, hA⟩ : ∃ A, A = F.ackd S := ⟨_, rfl⟩
  obtain ⟨U1, hU1⟩ : ∃ U1, U1 = F.U.filter fun x => !tb S x := ⟨_, rfl⟩
  rw [show F.U.filter (tb S) = F.ackd S from rfl, ← hA, ← hU1] at hTk
  have HA := hid hA
  have HU1 := hid hU1
  clear hA hU1
  have HNE := hid HFX.out.ne
  have HRW := hid HFX.out.row
  have HES := hid HFX.out.est
  clear HFX HRX hbxc
  obtain ⟨wx, hwx⟩ : ∃ wx, wx = w1.alloc (.cells #[.pointer (some ⟨q, 0, none⟩)] 73) := ⟨_, rfl⟩
  rw [← hwx] at HM0 hTk HRW HES c0 HWX HBX HBA ⊢
  clear hwx
  go_upto_region 3 with (go_at_call 43; refine hTk.mono ?_; rintro e w2 ⟨v1, rfl, hrow1, hmap1, ho1⟩; obtain ⟨a1, cap1, rfl, hv1⟩ := own_view hrow1; have HROW1 := hid hrow1; have HV1 := hid hv1; have HM1 := hid hmap1; have HO1 := hid ho1; clear hrow1 hv1 hmap1 ho1 hTk)
  have HMID := hid (HM0.out w2 A a1 cap1 { F with U := U1 } ⟨HO1.out.row HRW.out (by simpa using HNE.out.1), HM1.out, HO1.out.row HES.out (by simpa using HNE.out.2.2)⟩ HROW1.out HO1.out)
  clear HM0 HROW1 HM1 HO1 c0
  by_cases hA0 : A.length = 0
  · have ez : ((A.length : Nat) : Int) = 0 := by omega
    have HA0 := hid hA0
    clear hA0
    have hbox := HMID.out.box
    have hE := end_any HMID.out.view
    go_wp2_with (go_at_call 51; refine hE.mono ?_; rintro e w3 ⟨rfl, hb3⟩; have HM3 := hid (HMID.out.below hb3); have c0 := rcell_kept (below_grow (Below.refl w3.heap.size w3) (.cells #[.int .u64 (lastHi S)] 36)) (HM3.out.fl.row.cell 0 _ rfl); clear hb3 hE hbox)
    clear HMID
    have HMY := hid (HM3.out.below (below_grow (Below.refl w3.heap.size w3) (.cells #[.int .u64 (lastHi S)] 36)))
    have hbxt := box_cell w3 36 #[.int .u64 (lastHi S)] 0 _ rfl
    have hUm : ∀ x ∈ U1, x ∈ F.U := fun x hx => by rw [HU1.out] at hx; exact (List.mem_filter.1 hx).1
    have hUl : U1.length ≤ F.U.length := by rw [HU1.out]; exact List.length_filter_le _ _
    have hUr : Rising U1 := by rw [HU1.out]; exact HOK.out.rise.filter _
    have hTk2 := take_one sortI_any HMY.out.fl.map hUr (fun x hx => by have := HOK.out.nums x (hUm x hx); omega) (by simp only; omega) 52 (.pointer (some ⟨w3.heap.size, 0, none⟩)) (lb (lastHi S)) egLost (fun W x hx hb => lostf_any (rcell_kept hb hbxt) x (HOK.out.nums x (hUm x hx)).1 (by have := (HOK.out.nums x (hUm x hx)).2; omega))
    have HGE3 := hid (show w.heap.size + 1 ≤ (w3.alloc (.cells #[.int .u64 (lastHi S)] 36)).heap.size from by have := HMY.out.res.lt; omega)
    have HV1B : Hid (∀ x, (Value.slice a1 A.length cap1).ownBlock = some x → x < (w3.alloc (.cells #[.int .u64 (lastHi S)] 36)).heap.size) := fun x e => by
      have := HMY.out.row
      rcases this.2 with ⟨h1, _⟩ | ⟨gg, _, _, h1, _, h2, _⟩
      · rw [h1] at e; simp [Value.ownBlock] at e
      · rw [h1] at e
        simp only [Value.ownBlock, Option.some.injEq] at e
        subst e
        exact (Array.getElem?_eq_some_iff.1 h2).1
    have hLm : ((U1.filter (lb (lastHi S))).length : Nat) ≤ U1.length := List.length_filter_le _ _
    obtain ⟨Lo, hLo⟩ : ∃ Lo, Lo = U1.filter (lb (lastHi S)) := ⟨_, rfl⟩
    rw [← hLo] at hTk2 hLm
    have HLO := hid hLo
    clear hLo hUm hUr hbxt
    obtain ⟨wy, hwy⟩ : ∃ wy, wy = w3.alloc (.cells #[.int .u64 (lastHi S)] 36) := ⟨_, rfl⟩
    rw [← hwy] at HMY hTk2 HGE3 HV1B c0 ⊢
    clear hwy HM3
    go_wp2_with (go_at_call 43; refine hTk2.mono ?_; rintro e w4 ⟨v2, rfl, hrow2, hmap2, ho2⟩; obtain ⟨a2, cap2, rfl, hv2⟩ := own_view hrow2; have HROW2 := hid hrow2; have HM4 := hid (HMY.out.turn (G := { F with U := U1.filter fun x => !lb (lastHi S) x }) ho2 (by simp) ⟨ho2.row HMY.out.fl.row (by simpa using HMY.out.fl.ne.1), hmap2, ho2.row HMY.out.fl.est (by simpa using HMY.out.fl.ne.2.2)⟩); clear hrow2 hmap2 ho2 hTk2 hv2 c0)
    clear HMY
    have hC := cut_any HM4.out.fl HROW2.out (by omega)
    refine hC.mono ?_
    rintro e w5 ⟨rfl, hf5, ho5⟩
    have HM5 := hid (HM4.out.turn ho5 (by simp) hf5)
    have HROW5 := hid (own_only HROW2.out ho5 (fun x e => by have := own_ge HROW2.out e; have := HLT.out.1; have := HGE3.out; simp; omega))
    clear hf5 ho5 hC HM4 HROW2
    have HCB := hid (show cutB Lo F.line = F.isCut S by rw [HLO.out, HU1.out]; rfl)
    simp only [] at HM5
    rw [HCB.out] at HM5 ⊢
    go_wp2_with (show wpList _ _ _ (Oper.mk none (.store 55 (.tmp 6) (.tmp 54)) _ _ _ _ :: _) _ _; refine Row.wpStore' HM5.out.res 55 (.tmp 6) (.tmp 54) [.slice a1 A.length cap1, .slice a2 Lo.length cap2, .bool (F.isCut S)] rfl rfl rfl rfl rfl (by simp [Value.oneCell']) i55 ?_; intro wz HZ)
    obtain ⟨l1, l2, l3⟩ := HLT.out
    have hz := HZ.out
    subst hz
    have hoz : Only [w.heap.size] w5 (w5.setRow w.heap.size #[.slice a1 A.length cap1, .slice a2 Lo.length cap2, .bool (F.isCut S)]) := (Only.refl _ _).setRow _ _ (.inl (by simp))
    refine bodyPost_ret (Row.result (HM5.out.res.row [.slice a1 A.length cap1, .slice a2 Lo.length cap2, .bool (F.isCut S)]) Try.results27 _ rfl _ Try.underlying55 rfl i55) rfl ?_
    have hge := HGE3.out
    refine ⟨.slice a1 A.length cap1, .slice a2 Lo.length cap2, S, wy.heap.size, HT.out, rfl, ?_, HV1B.out, by omega, ?_, ?_, HM5.out.only.setRow w.heap.size _ (.inr (Nat.le_refl _))⟩
    · rw [← HA.out]
      exact own_mono (own_only HM5.out.row hoz (fun x e => by have := own_ge HM5.out.row e; simp; omega)) (Nat.le_succ _)
    · rw [show F.lost S = Lo by rw [HLO.out, HU1.out]; rfl]
      exact own_only HROW5.out hoz (fun x e => by have := own_ge HROW5.out e; simp; omega)
    · rw [show F.heard now S = { F with U := U1.filter fun x => !lb (lastHi S) x, line := if F.isCut S = true then F.next else F.line } by
        unfold Fl.heard Fl.hear
        rw [← HA.out, if_pos HA0.out, if_pos HA0.out, ← HU1.out]]
      exact HM5.out.fl.only hoz (by simp; omega) (by simp; omega) (by simp; omega)
  · have ez : (0 : Int) < ((A.length : Nat) : Int) := by omega
    obtain ⟨m, hm⟩ : ∃ m, m = A.length - 1 := ⟨_, rfl⟩
    have hmA : m < A.length := by omega
    obtain ⟨g1, ea1, _, _, _, _, _, c4⟩ := HV1.out m hmA
    have hla : A[m].at_ = lastAt A := by rw [lastAt_eq hA0]; simp [hm]
    rw [hla] at c4
    have hAm : ∀ x ∈ A, x ∈ F.U := by rw [HA.out]; exact fun x hx => (List.mem_filter.1 hx).1
    have hAl : A.length ≤ F.U.length := by rw [HA.out]; exact List.length_filter_le _ _
    have e2 : wrap64 ((A.length : Int) - 1) = (m : Int) := by unfold wrap64; omega
    have e2' : IntKind.i64.wrap ((A.length : Int) - 1) = (m : Int) := by rw [IntKind.wrap_i64]; omega
    have e3 : (m : Int) < (A.length : Int) := by omega
    have hl0 : 0 ≤ lastAt A := by rw [← hla]; exact HAT.out _ (hAm _ (List.getElem_mem hmA))
    have hSM := hid (fun (W : World) => since_any (w := W) (lastAt A) now hl0 hn0 hn1)
    have HLAST := hid (show 0 ≤ now - min (lastAt A) now by omega)
    have HA0 := hid hA0
    have c1 := HMID.out.fl.row.cell 1 _ rfl
    have HTH : Hid (∃ t, t = lastAt A) := ⟨_, rfl⟩
    obtain ⟨th, hth⟩ := HTH.out
    rw [← hth] at c4 hSM HLAST hl0 hla
    have HTH2 := hid hth
    clear hA0 hm hla hAl hl0 HV1 hAm HTH hth
    subst ea1
    go_upto_region 4 with (fail)
    have c1' := cell_drawn (w2.drawn + 1) c1
    have c4' := cell_drawn (w2.drawn + 1) c4
    have HMD := hid (HMID.out.below (wu := { w2 with drawn := w2.drawn + 1 }) (below_drawn (Below.refl _ _) _))
    clear c1 c4
    refine wp_region_still_tail 13 (by kernel_rfl) (by decide +kernel) ?_
    generalize ({ w2 with drawn := w2.drawn + 1 } : World) = wq at *
    simp only [List.take_succ_cons, List.take_zero, List.drop_succ_cons, List.drop_zero]
    iterate 12 still_step
    still_call (hSM.out _)
    refine wpStill_nil ?_
    have hSA := sample_any HMD.out.fl.est HOK.out.est HLAST.out
    clear c1' c4'
    go_wp2_with (go_at_call 49; refine hSA.mono ?_; rintro e w7 ⟨rfl, hes, hoe⟩; have HM7 := hid (HMD.out.turn (G := { F with U := U1, E := F.E.sample (now - min th now) }) hoe (by simp) ⟨hoe.row HMD.out.fl.row (by simpa using HMD.out.fl.ne.2.1), OwnU.block HMD.out.fl.map (hoe.block b (World.ownsMap.lt HMD.out.fl.map) (by simpa using fun e => HMD.out.fl.ne.2.2 e.symm)), hes⟩); have c6 := HM7.out.fl.row.cell 6 _ rfl; have f6 := HM7.out.fl.row.frozen 6; have k0 := (Only.refl [p] w7).setCell p 6 (.int .u64 now) (.inl (by simp)); have HMT := hid (HM7.out.turn (G := { F with U := U1, E := F.E.sample (now - min th now), mark := now }) k0 (by simp) ⟨HM7.out.fl.row.set 6 _, HM7.out.fl.map.setCell (fun e => HM7.out.fl.ne.1 e.symm) _, Row.setOther HM7.out.fl.est ⟨p, 6, none⟩ (fun e => HM7.out.fl.ne.2.1 e.symm) _⟩); have hbox := HMT.out.box; clear hes hoe k0 hSA)
    have hE := end_any HMT.out.view
    go_wp2_with (go_at_call 51; refine hE.mono ?_; rintro e w3 ⟨rfl, hb3⟩; have HM3 := hid (HMT.out.below hb3); have c0 := rcell_kept (below_grow (Below.refl w3.heap.size w3) (.cells #[.int .u64 (lastHi S)] 36)) (HM3.out.fl.row.cell 0 _ rfl); clear hb3 hE hbox)
    clear HMT
    have HMY := hid (HM3.out.below (below_grow (Below.refl w3.heap.size w3) (.cells #[.int .u64 (lastHi S)] 36)))
    have hbxt := box_cell w3 36 #[.int .u64 (lastHi S)] 0 _ rfl
    have hUm : ∀ x ∈ U1, x ∈ F.U := fun x hx => by rw [HU1.out] at hx; exact (List.mem_filter.1 hx).1
    have hUl : U1.length ≤ F.U.length := by rw [HU1.out]; exact List.length_filter_le _ _
    have hUr : Rising U1 := by rw [HU1.out]; exact HOK.out.rise.filter _
    have hTk2 := take_one sortI_any HMY.out.fl.map hUr (fun x hx => by have := HOK.out.nums x (hUm x hx); omega) (by simp only; omega) 52 (.pointer (some ⟨w3.heap.size, 0, none⟩)) (lb (lastHi S)) egLost (fun W x hx hb => lostf_any (rcell_kept hb hbxt) x (HOK.out.nums x (hUm x hx)).1 (by have := (HOK.out.nums x (hUm x hx)).2; omega))
    have HGE3 := hid (show w.heap.size + 1 ≤ (w3.alloc (.cells #[.int .u64 (lastHi S)] 36)).heap.size from by have := HMY.out.res.lt; omega)
    have HV1B : Hid (∀ x, (Value.slice (some ⟨g1, 0, none⟩) A.length cap1).ownBlock = some x → x < (w3.alloc (.cells #[.int .u64 (lastHi S)] 36)).heap.size) := fun x e => by
      have := HMY.out.row
      rcases this.2 with ⟨h1, _⟩ | ⟨gg, _, _, h1, _, h2, _⟩
      · rw [h1] at e; simp [Value.ownBlock] at e
      · rw [h1] at e
        simp only [Value.ownBlock, Option.some.injEq] at e
        subst e
        exact (Array.getElem?_eq_some_iff.1 h2).1
    have hLm : ((U1.filter (lb (lastHi S))).length : Nat) ≤ U1.length := List.length_filter_le _ _
    obtain ⟨Lo, hLo⟩ : ∃ Lo, Lo = U1.filter (lb (lastHi S)) := ⟨_, rfl⟩
    rw [← hLo] at hTk2 hLm
    have HLO := hid hLo
    clear hLo hUm hUr hbxt
    obtain ⟨wy, hwy⟩ : ∃ wy, wy = w3.alloc (.cells #[.int .u64 (lastHi S)] 36) := ⟨_, rfl⟩
    rw [← hwy] at HMY hTk2 HGE3 HV1B c0 ⊢
    clear hwy HM3
    go_wp2_with fail
    refine hTk2.mono ?_
    rintro e w4 ⟨v2, rfl, hrow2, hmap2, ho2⟩
    obtain ⟨a2, cap2, rfl, hv2⟩ := own_view hrow2
    have HROW2 := hid hrow2
    have HM4 := hid (HMY.out.turn (G := { F with E := F.E.sample (now - min th now), mark := now, U := U1.filter fun x => !lb (lastHi S) x }) ho2 (by simp) ⟨ho2.row HMY.out.fl.row (by simpa using HMY.out.fl.ne.1), hmap2, ho2.row HMY.out.fl.est (by simpa using HMY.out.fl.ne.2.2)⟩)
    clear hrow2 hmap2 ho2 hTk2 hv2 c0
    go_wp2_with fail
    clear HMY
    have hC := cut_any HM4.out.fl HROW2.out (by omega)
    refine hC.mono ?_
    rintro e w5 ⟨rfl, hf5, ho5⟩
    have HM5 := hid (HM4.out.turn ho5 (by simp) hf5)
    have HROW5 := hid (own_only HROW2.out ho5 (fun x e => by have := own_ge HROW2.out e; have := HLT.out.1; have := HGE3.out; simp; omega))
    clear hf5 ho5 hC HM4 HROW2
    have HCB := hid (show cutB Lo F.line = F.isCut S by rw [HLO.out, HU1.out]; rfl)
    simp only [] at HM5
    rw [HCB.out] at HM5 ⊢
    go_wp2_with (show wpList _ _ _ (Oper.mk none (.store 55 (.tmp 6) (.tmp 54)) _ _ _ _ :: _) _ _; refine Row.wpStore' HM5.out.res 55 (.tmp 6) (.tmp 54) [.slice (some ⟨g1, 0, none⟩) A.length cap1, .slice a2 Lo.length cap2, .bool (F.isCut S)] rfl rfl rfl rfl rfl (by simp [Value.oneCell']) i55 ?_; intro wz HZ)
    obtain ⟨l1, l2, l3⟩ := HLT.out
    have hz := HZ.out
    subst hz
    have hoz : Only [w.heap.size] w5 (w5.setRow w.heap.size #[.slice (some ⟨g1, 0, none⟩) A.length cap1, .slice a2 Lo.length cap2, .bool (F.isCut S)]) := (Only.refl _ _).setRow _ _ (.inl (by simp))
    refine bodyPost_ret (Row.result (HM5.out.res.row [.slice (some ⟨g1, 0, none⟩) A.length cap1, .slice a2 Lo.length cap2, .bool (F.isCut S)]) Try.results27 _ rfl _ Try.underlying55 rfl i55) rfl ?_
    have hge := HGE3.out
    refine ⟨.slice (some ⟨g1, 0, none⟩) A.length cap1, .slice a2 Lo.length cap2, S, wy.heap.size, HT.out, rfl, ?_, HV1B.out, by omega, ?_, ?_, HM5.out.only.setRow w.heap.size _ (.inr (Nat.le_refl _))⟩
    · rw [← HA.out]
      exact own_mono (own_only HM5.out.row hoz (fun x e => by have := own_ge HM5.out.row e; simp; omega)) (Nat.le_succ _)
    · rw [show F.lost S = Lo by rw [HLO.out, HU1.out]; rfl]
      exact own_only HROW5.out hoz (fun x e => by have := own_ge HROW5.out e; simp; omega)
    · rw [show F.heard now S = { F with E := F.E.sample (now - min th now), mark := now, U := U1.filter fun x => !lb (lastHi S) x, line := if F.isCut S = true then F.next else F.line } by
        unfold Fl.heard Fl.hear
        rw [← HA.out, if_neg HA0.out, if_neg HA0.out, ← HU1.out, ← HTH2.out]]
      exact HM5.out.fl.only hoz (by simp; omega) (by simp; omega) (by simp; omega)
end Go.Proofs.Ytbkfmknjbdonlaa
