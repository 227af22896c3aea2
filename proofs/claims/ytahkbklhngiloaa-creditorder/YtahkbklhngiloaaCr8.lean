import Derived.Test.YtahkbklhngiloaaCr7
namespace Go.Proofs.Ytahkbklhngiloaa
open Go.RowKit Go.Maps
set_option maxRecDepth 100000

/-- What a call of notes answers. -/
def NAns (w : World) (p b : Nat) (B B' : Bk) (l : List (Int × Int)) (v : Value) (w' : World) : Prop := w'.ownsRow w.heap.size 89 2 v l.length (ncells l) ∧ BkAt w' p b B' ∧ Fr (fun k => Foot p b B k) w w'
theorem use_drew {w : World} {q : Nat} {p b : Nat} {B : Bk} {x : Ln} {n : Int} {v : Value} {w' : World} (h : UAns (w.drewN q) p b B x n v w') : NAns w p b B (B.use3 x n) (B.notes x n) v w' :=
  ⟨h.1, h.2.1, ((Fr.refl _ _).drewN q).trans h.2.2 (fun _ e => .inl e)⟩
theorem use_is {w : World} {p b : Nat} {B : Bk} {x : Ln} {n : Int} {v : Value} {w' : World} (h : UAns w p b B x n v w') : NAns w p b B (B.use3 x n) (B.notes x n) v w' := h
theorem lUse_none {w : World} {p b : Nat} {B : Bk} (h : BkAt w p b B) {id n : Int} (h0 : 0 ≤ id) (h1 : id ≤ 18446744073709551615) (hx : fnd B.U id = none) : Calls Try.prog 17 #[pt p 0, .int .u64 id, .int .u64 n] w fun e w' => e = .returned (.tuple #[.slice none 0 0, .int .i64 181]) ∧ w' = w := by
  have hA := held_none h h0 h1 hx
  clear h hx h0 h1
  go_enter Try.func17, Try.ntmps17
  go_wp2_with (go_at_call 42; refine hA.mono ?_; rintro e w' ⟨rfl, rfl⟩)
  go_ret2
  exact ⟨by first | rfl | simp, rfl⟩
theorem lUse_over {w : World} {p b : Nat} {B : Bk} (h : BkAt w p b B) {id n : Int} (h0 : 0 ≤ id) (h1 : id ≤ 18446744073709551615) {x : Ln} (hx : fnd B.U id = some x) (k : x.s.a.Ok) (hn : x.s.a.came - x.s.a.used < n) : Calls Try.prog 17 #[pt p 0, .int .u64 id, .int .u64 n] w fun e w' => e = .returned (.tuple #[.slice none 0 0, .int .i64 185]) ∧ ∃ q, w' = w.drewN q := by
  have hA := held_some h h0 h1 hx
  have hU := unused_any (h.strm (fnd_some hx).1) k
  clear h hx h0 h1 k
  go_enter Try.func17, Try.ntmps17
  go_wp2_with (first | (go_at_call 42; refine hA.mono ?_; rintro e w' ⟨rfl, rfl⟩) | (go_at_call 43; refine hU.mono ?_; rintro e w' ⟨rfl, q, rfl⟩))
  go_ret2
  exact ⟨by first | rfl | simp, q, rfl⟩
theorem lUse_ok {w : World} {p b : Nat} {B : Bk} (h : BkAt w p b B) {x : Ln} (hx : fnd B.U x.num = some x) {n : Int} (K : UseOk B x n) : Calls Try.prog 17 #[pt p 0, .int .u64 x.num, .int .u64 n] w fun e w' => ∃ v, e = .returned (.tuple #[v, .int .i64 0]) ∧ NAns w p b B (B.use3 x n) (B.notes x n) v w' := by
  have hA := held_some h K.id0 K.id1 hx
  have hU := unused_any (h.strm (fnd_some hx).1) K.a
  have hS := fun q => use_any (h.drewN q) K
  have hn := K.n1
  have hn0 := K.n0
  clear h hx K
  go_enter Try.func17, Try.ntmps17
  go_wp2_with (first | (go_at_call 42; refine hA.mono ?_; rintro e w' ⟨rfl, rfl⟩) | (go_at_call 43; refine hU.mono ?_; rintro e w' ⟨rfl, q, rfl⟩) | (go_at_call 41; refine (hS q).mono ?_; rintro e w2 ⟨v, rfl, ha⟩; have HA := hid2 ha; clear ha hS))
  go_ret2
  exact ⟨v, by first | rfl | simp, use_drew HA.out⟩
/-- Bytes have come. -/
def Ss.take (s : Ss) (n : Int) : Ss := { s with a := { s.a with came := s.a.came + n } }
def Ln.take (x : Ln) (n : Int) : Ln := { x with s := x.s.take n }
def Bk.tak (B : Bk) (x : Ln) (n : Int) : Bk := { B with all := { B.all with came := B.all.came + n }, U := upd B.U x.num (x.s.take n) }
theorem take_none {w : World} {p b : Nat} {B : Bk} (h : BkAt w p b B) {id n : Int} (h0 : 0 ≤ id) (h1 : id ≤ 18446744073709551615) (hx : B.shut id) : Calls Try.prog 16 #[pt p 0, .int .u64 id, .int .u64 n] w fun e w' => e = .returned (.tuple #[.slice none 0 0, .int .i64 181]) ∧ w' = w := by
  have hA := opened_none h h0 h1 hx
  clear h hx h0 h1
  go_enter Try.func16, Try.ntmps16
  go_wp2_with (go_at_call 35; refine hA.mono ?_; rintro e w' ⟨rfl, rfl⟩)
  go_ret2
  exact ⟨by first | rfl | simp, rfl⟩
/-- What may come on a stream. -/
def Bk.wait (B : Bk) (x : Ln) : Int := min (x.s.a.told - x.s.a.came) (B.all.told - B.all.came)
set_option maxHeartbeats 1000000 in
theorem take_over {w : World} {p b : Nat} {B : Bk} (h : BkAt w p b B) (ka : B.all.Ok) {id n : Int} (h0 : 0 ≤ id) (h1 : id ≤ 18446744073709551615) {x : Ln} (hx : fnd B.U id = some x) (ho : x.s.op = true) (k : x.s.a.Ok) (hn : B.wait x < n) : Calls Try.prog 16 #[pt p 0, .int .u64 id, .int .u64 n] w fun e w' => e = .returned (.tuple #[.slice none 0 0, .int .i64 183]) ∧ Below w.heap.size w w' := by
  have hA := opened_some h h0 h1 hx ho
  have hW1 := fun W (hW : BkAt W p b B) => awaited_any (hW.strm (fnd_some hx).1) k
  have hW2 := fun W (hW : BkAt W p b B) => awaited_any hW.acc ka
  have HH := hid2 h
  unfold Bk.wait at hn
  clear h hx h0 h1 k ka ho
  generalize x.s.a.told - x.s.a.came = X at *
  generalize B.all.told - B.all.came = Y at *
  go_enter Try.func16, Try.ntmps16
  go_upto_region 4 with (go_at_call 35; refine hA.mono ?_; rintro e w' ⟨rfl, rfl⟩)
  go_region_with (first | (go_at_call 39; refine (hm1 _ (HH.out.drewN (1 + q))).mono ?_; rintro e w3 ⟨rfl, q2, rfl⟩) | (go_at_call 39; refine (hW1 _ (HH.out.drewN 1)).mono ?_; rintro e w2 ⟨rfl, q, rfl⟩; have hm1 := hW2; clear hW1 hW2))
  go_wp2
  go_ret2
  exact ⟨by first | rfl | simp, below_drewN (Below.refl _ _) _⟩
theorem TakOk {B : Bk} {x : Ln} {n : Int} (K : UseOk B x 0) (hn0 : 0 ≤ n) (hn : n ≤ B.wait x) : UseOk (B.tak x n) (x.take n) n ∧ (x.take n) ∈ (B.tak x n).U := by
  obtain ⟨m, sd, ow, al, a, lt, la, n0, n1, n2, i0, i1⟩ := K
  have hm : (x.take n) ∈ (B.tak x n).U := mem_use m _
  unfold Bk.wait at hn
  obtain ⟨a1, a2, a3, a4, a5, a6, a7⟩ := al
  obtain ⟨b1, b2, b3, b4, b5, b6, b7⟩ := a
  refine ⟨⟨hm, sd, ow, ⟨a1, a2, a3, a4, ?_, ?_, a7⟩, ⟨b1, b2, b3, b4, ?_, ?_, b7⟩, lt, la, hn0, ?_, ?_, i0, i1⟩, hm⟩ <;> simp only [Bk.tak, Ln.take, Ss.take] <;> omega
theorem tak_foot {p b : Nat} {B : Bk} {x : Ln} {n : Int} {k : Nat} : Foot p b (B.tak x n) k ↔ Foot p b B k := upd_foot (B := B)
set_option maxHeartbeats 1000000 in
/-- Bytes have come on a stream that is not deaf. -/
theorem take_ok {w : World} {p b : Nat} {B : Bk} (h : BkAt w p b B) {x : Ln} (hx : fnd B.U x.num = some x) (ho : x.s.op = true) (hd : x.s.deaf = false) {n : Int} (K : UseOk B x 0) (hn0 : 0 ≤ n) (hn : n ≤ B.wait x) :
    Calls Try.prog 16 #[pt p 0, .int .u64 x.num, .int .u64 n] w fun e w' => e = .returned (.tuple #[.slice none 0 0, .int .i64 0]) ∧ BkAt w' p b (B.tak x n) ∧ Fr (fun k => Foot p b B k) w w' := by
  have hA := opened_some h K.id0 K.id1 hx ho
  have hW1 := fun W (hW : BkAt W p b B) => awaited_any (hW.strm (fnd_some hx).1) K.a
  have hW2 := fun W (hW : BkAt W p b B) => awaited_any hW.acc K.all
  have hr : n ≤ x.s.a.told - x.s.a.came ∧ n ≤ B.all.told - B.all.came := by unfold Bk.wait at hn; omega
  have hS := fun W (hW : BkAt W p b B) => take_any (hW.strm (fnd_some hx).1) K.a hn0 hr.1
  have HT1 := hid2 (fun W (hW : BkAt W p b B) => hW.turn (fnd_some hx).1 2 (.int .u64 (x.s.a.came + n)) (s := x.s.take n) rfl)
  have hS2 := fun W (hW : BkAt W p b { B with U := upd B.U x.num (x.s.take n) }) => take_any hW.acc K.all hn0 hr.2
  have HT2 := hid2 (fun W (hW : BkAt W p b { B with U := upd B.U x.num (x.s.take n) }) => hW.field 13 (.int .u64 (B.all.came + n)) (B' := B.tak x n) rfl rfl)
  have HM := hid2 (fnd_some hx).1
  have HH := hid2 h
  have HD := hid2 hd
  have hn1 : n ≤ min (x.s.a.told - x.s.a.came) (B.all.told - B.all.came) := hn
  clear h hx K ho hr hn hd
  generalize x.s.a.told - x.s.a.came = X at *
  generalize B.all.told - B.all.came = Y at *
  go_enter Try.func16, Try.ntmps16
  go_upto_region 4 with (go_at_call 35; refine hA.mono ?_; rintro e w' ⟨rfl, rfl⟩)
  go_region_with (first | (go_at_call 39; refine (hm1 _ (HH.out.drewN (1 + q))).mono ?_; rintro e w3 ⟨rfl, q2, rfl⟩) | (go_at_call 39; refine (hW1 _ (HH.out.drewN 1)).mono ?_; rintro e w2 ⟨rfl, q, rfl⟩; have hm1 := hW2; clear hW1 hW2))
  go_upto_region 6 with fail
  refine wp_world ?_
  intro w4 hw4
  have H4 : BkAt w4 p b B := by rw [hw4.out]; exact HH.out.drewN _
  have F4 : Fr (fun k => Foot p b B k) w' w4 := by rw [hw4.out]; exact (Fr.refl _ _).drewN _
  have H5 := HT1.out w4 H4
  have H6 := HT2.out _ H5
  have c6 := (H6.rows (x.take n) (mem_use HM.out _)).cell 6 _ rfl
  rw [show (x.take n).s.deaf = false from HD.out, show (x.take n).g = x.g from rfl] at c6
  have h5 := hS _ H4
  have h6 := hS2 _ H5
  have HH6 := hid2 H6
  have HF6 := hid2 ((F4.setCell x.g 2 (.int .u64 (x.s.a.came + n)) (.inl (.inr (.inr ⟨x, HM.out, rfl⟩)))).setCell p 13 (.int .u64 (B.all.came + n)) (.inl (.inl rfl)))
  clear H4 H5 H6 F4 hS hS2 hm1 hw4
  go_wp2_with (first | (go_at_call 40; refine hm2.mono ?_; rintro e w7 ⟨rfl, rfl⟩) | (go_at_call 40; refine h5.mono ?_; rintro e w7 ⟨rfl, rfl⟩; have hm2 := h6; clear h5 h6))
  go_ret2
  exact ⟨by first | rfl | simp, HH6.out, HF6.out⟩
set_option maxHeartbeats 1000000 in
/-- Bytes have come on a stream that is deaf. -/
theorem take_deaf {w : World} {p b : Nat} {B : Bk} (h : BkAt w p b B) {x : Ln} (hx : fnd B.U x.num = some x) (ho : x.s.op = true) (hd : x.s.deaf = true) {n : Int} (K : UseOk B x 0) (hn0 : 0 ≤ n) (hn : n ≤ B.wait x) :
    Calls Try.prog 16 #[pt p 0, .int .u64 x.num, .int .u64 n] w fun e w' => ∃ v, e = .returned (.tuple #[v, .int .i64 0]) ∧ NAns w p b B ((B.tak x n).use3 (x.take n) n) ((B.tak x n).notes (x.take n) n) v w' := by
  have hA := opened_some h K.id0 K.id1 hx ho
  have hW1 := fun W (hW : BkAt W p b B) => awaited_any (hW.strm (fnd_some hx).1) K.a
  have hW2 := fun W (hW : BkAt W p b B) => awaited_any hW.acc K.all
  have hr : n ≤ x.s.a.told - x.s.a.came ∧ n ≤ B.all.told - B.all.came := by unfold Bk.wait at hn; omega
  have hS := fun W (hW : BkAt W p b B) => take_any (hW.strm (fnd_some hx).1) K.a hn0 hr.1
  have HT1 := hid2 (fun W (hW : BkAt W p b B) => hW.turn (fnd_some hx).1 2 (.int .u64 (x.s.a.came + n)) (s := x.s.take n) rfl)
  have hS2 := fun W (hW : BkAt W p b { B with U := upd B.U x.num (x.s.take n) }) => take_any hW.acc K.all hn0 hr.2
  have HT2 := hid2 (fun W (hW : BkAt W p b { B with U := upd B.U x.num (x.s.take n) }) => hW.field 13 (.int .u64 (B.all.came + n)) (B' := B.tak x n) rfl rfl)
  have HM := hid2 (fnd_some hx).1
  have HH := hid2 h
  have HD := hid2 hd
  have hn1 : n ≤ min (x.s.a.told - x.s.a.came) (B.all.told - B.all.came) := hn
  have HUK := hid2 (TakOk K hn0 hn)
  clear h hx K ho hr hn hd
  generalize x.s.a.told - x.s.a.came = X at *
  generalize B.all.told - B.all.came = Y at *
  go_enter Try.func16, Try.ntmps16
  go_upto_region 4 with (go_at_call 35; refine hA.mono ?_; rintro e w' ⟨rfl, rfl⟩)
  go_region_with (first | (go_at_call 39; refine (hm1 _ (HH.out.drewN (1 + q))).mono ?_; rintro e w3 ⟨rfl, q2, rfl⟩) | (go_at_call 39; refine (hW1 _ (HH.out.drewN 1)).mono ?_; rintro e w2 ⟨rfl, q, rfl⟩; have hm1 := hW2; clear hW1 hW2))
  go_upto_region 6 with fail
  refine wp_world ?_
  intro w4 hw4
  have H4 : BkAt w4 p b B := by rw [hw4.out]; exact HH.out.drewN _
  have F4 : Fr (fun k => Foot p b B k) w' w4 := by rw [hw4.out]; exact (Fr.refl _ _).drewN _
  have hz4 : w4.heap.size = w'.heap.size := by rw [hw4.out]; rfl
  have H5 := HT1.out w4 H4
  have H6 := HT2.out _ H5
  have c6 := (H6.rows (x.take n) (mem_use HM.out _)).cell 6 _ rfl
  rw [show (x.take n).s.deaf = true from HD.out, show (x.take n).g = x.g from rfl] at c6
  have h5 := hS _ H4
  have h6 := hS2 _ H5
  have h7 := use_any H6 HUK.out.1
  have HF6 := hid2 ((F4.setCell x.g 2 (.int .u64 (x.s.a.came + n)) (.inl (.inr (.inr ⟨x, HM.out, rfl⟩)))).setCell p 13 (.int .u64 (B.all.came + n)) (.inl (.inl rfl)))
  have HZ := hid2 (show ((w4.setCell ⟨x.g, 2, none⟩ (.int .u64 (x.s.a.came + n))).setCell ⟨p, 13, none⟩ (.int .u64 (B.all.came + n))).heap.size = w'.heap.size by simpa using hz4)
  clear H4 H5 H6 F4 hS hS2 hm1 hw4 hz4
  go_wp2_with (first | (go_at_call 40; refine hm2.mono ?_; rintro e w7 ⟨rfl, rfl⟩) | (go_at_call 40; refine h5.mono ?_; rintro e w7 ⟨rfl, rfl⟩; have hm2 := h6; clear h5 h6) | (go_at_call 41; refine h7.mono ?_; rintro e w8 ⟨v, rfl, ha⟩; have HA := hid2 ha; clear ha h7))
  go_ret2
  have hO := HA.out.1
  rw [HZ.out] at hO
  exact ⟨v, by first | rfl | simp, hO, HA.out.2.1, HF6.out.trans HA.out.2.2 (fun k e => .inl (tak_foot.1 e))⟩
end Go.Proofs.Ytahkbklhngiloaa
