import Derived.Test.YtjnmfedefmemnaaAct
namespace Go.Proofs.Ytjnmfedefmemnaa
open Go.RowKit Go.Maps
set_option maxRecDepth 100000

/-- What a Take's answer tells: the error, and of a frame that was there its bytes. -/
def TakeSays (w w' : World) (D : Dat) (n : Nat) (o : OpV) (a : Option Addr) (m : Nat) (b : Bool) (er : Int) : Prop :=
  er = D.err n o.path o.dir o.k true ∧ (er ≠ 0 → a = none ∧ m = 0 ∧ b = false) ∧ (er = 0 → m = (D.at o.path o.dir o.k).1.length ∧ b = sp (D.at o.path o.dir o.k).2 m ∧ ∃ g', a = some ⟨g', 0, none⟩ ∧ w.heap.size ≤ g' ∧ Row w' g' (bcells (xorT (D.at o.path o.dir o.k).1 (D.at o.path o.dir o.k).2)) 5)
set_option maxHeartbeats 1000000 in
theorem act_take {B : Nat} {w : World} {p g n K : Nat} {vs : Nat → Nat → Value} {fr : Nat → Nat → List Fr} {D : Dat} (h : NetP B w p g n vs fr K D) (o : OpV) (hkind : o.kind = 2) :
    Calls Try.prog 22 #[.pointer (some ⟨p, 0, none⟩), .agg o.cells.toArray] w fun e w' => ∃ a m b er, e = .returned (.tuple #[.agg #[.slice a m m, .bool b], .bool (er == 0)]) ∧ TakeSays w w' D n o a m b er ∧ ∃ vs' fr', NetP B w' p g n vs' fr' K (D.take n o.path o.dir o.k) ∧ Stays w w' g n vs vs' fr fr' := by
  obtain ⟨kind, second, path, dir, k, nn, mask, up, frame, fa, fcap⟩ := o
  simp only at hkind
  subst hkind
  have hb := below_grow (below_grow (Below.refl w.heap.size w) (.cells #[.int .i64 2, .bool second, .int .i64 path, .int .i64 dir, .int .i64 k, .int .i64 nn, .int .u8 (ub mask), .bool up, .slice fa frame.length fcap] 60)) (.cells #[.slice none 0 0, .bool false] 32)
  have r1 : Row ((w.alloc (.cells #[.int .i64 2, .bool second, .int .i64 path, .int .i64 dir, .int .i64 k, .int .i64 nn, .int .u8 (ub mask), .bool up, .slice fa frame.length fcap] 60)).alloc (.cells #[.slice none 0 0, .bool false] 32)) w.heap.size [.int .i64 2, .bool second, .int .i64 path, .int .i64 dir, .int .i64 k, .int .i64 nn, .int .u8 (ub mask), .bool up, .slice fa frame.length fcap] 60 := (Row.new' _ _ _ _ _ rfl rfl).alloc _
  have r2 : Row ((w.alloc (.cells #[.int .i64 2, .bool second, .int .i64 path, .int .i64 dir, .int .i64 k, .int .i64 nn, .int .u8 (ub mask), .bool up, .slice fa frame.length fcap] 60)).alloc (.cells #[.slice none 0 0, .bool false] 32)) (w.heap.size + 1) [.slice none 0 0, .bool false] 32 := Row.new' _ _ _ _ _ (by simp) rfl
  have HN := hid (h.kept hb)
  have HB := hid hb
  have HR2 := hid r2
  have c0 := r1.cell 0 _ rfl
  have c2 := r1.cell 2 _ rfl
  have c3 := r1.cell 3 _ rfl
  have c4 := r1.cell 4 _ rfl
  clear h hb r1 r2
  simp only [OpV.cells]
  go_enter Try.func22, Try.ntmps22
  go_upto_region 1 with (fail)
  generalize ((w.alloc (.cells #[.int .i64 2, .bool second, .int .i64 path, .int .i64 dir, .int .i64 k, .int .i64 nn, .int .u8 (ub mask), .bool up, .slice fa frame.length fcap] 60)).alloc (.cells #[.slice none 0 0, .bool false] 32)) = wa at *
  go_upto_region 6 with (go_at_call 13; refine (NetP.take HN.out path dir k).mono ?_; rintro e w2 ⟨a, m, b, er, rfl, he1, he2, he3, vs', fr', hn2, hs2⟩; have HN2 := hid hn2; have HS2 := hid hs2; have HE1 := hid he1; have HE2 := hid he2; have HE3 := hid he3; clear hn2 hs2 he1 he2 he3)
  refine wp_world fun w3 HW => ?_
  have HA3 : Hid (Below w2.heap.size w2 w3) := by show Below _ _ _; rw [HW.out]; exact below_grow (Below.refl _ _) _
  have HF3 : Hid (Row w3 w2.heap.size [.slice a m m, .bool b] 32) := by show Row _ _ _ _; rw [HW.out]; exact Row.new' _ _ _ _ _ rfl rfl
  have hrr := HN.out.rowKept HS2.out HR2.out (by decide) (by decide) (by decide)
  have HRR := hid (hrr.kept HA3.out hrr.lt)
  have HNE : Hid (w2.heap.size ≠ w.heap.size + 1) := by show _ ≠ _; have := hrr.lt; omega
  have HGE : Hid (w.heap.size ≤ w2.heap.size) := by show _ ≤ _; have := hrr.lt; omega
  have HO3 : Hid (Only [] w2 w3) := Only.of_below HA3.out (Nat.le_refl _)
  have HN3 := hid (HN2.out.kept HA3.out)
  have HE4 : Hid (er = 0 → m = (D.at path dir k).1.length ∧ b = sp (D.at path dir k).2 m ∧ ∃ g', a = some ⟨g', 0, none⟩ ∧ wa.heap.size ≤ g' ∧ Row w3 g' (bcells (xorT (D.at path dir k).1 (D.at path dir k).2)) 5) := fun e0 => by
    obtain ⟨e1, e2, g', e3, e4, e5⟩ := HE3.out e0
    exact ⟨e1, e2, g', e3, e4, e5.kept HA3.out e5.lt⟩
  clear HW hrr HA3 HE3
  generalize w2.heap.size = fb at *
  have f0 := HF3.out.cell 0 _ rfl
  have f1 := HF3.out.cell 1 _ rfl
  go_wp2_with (show wpList _ _ _ (Oper.mk none (.store 32 (.tmp 4) (.tmp 33)) _ _ _ _ :: _) _ _; refine HRR.out.wpStore' 32 (.tmp 4) (.tmp 33) [.slice a m m, .bool b] rfl rfl rfl rfl rfl (by simp [Value.oneCell']) i32 ?_; intro wz HZ)
  have hz : Only [w.heap.size + 1] w3 wz := by rw [HZ.out]; exact (Only.refl _ _).setRow _ _ (.inl (by simp))
  have h1 : Row wz (w.heap.size + 1) [.slice a m m, .bool b] 32 := by rw [HZ.out]; exact HRR.out.row _
  have hn := HN3.out.far hz (fun x hx => ⟨_, 32, (by simpa using hx : x = w.heap.size + 1) ▸ HRR.out, by decide, by decide, by decide, by decide, by decide⟩)
  have hs := ((Stays.before HB.out HS2.out).row HO3.out (fun x hx => by cases hx)).row hz (fun x hx => by rw [show x = w.heap.size + 1 by simpa using hx]; omega)
  refine bodyPost_ret (v := .tuple #[.agg #[.slice a m m, .bool b], .bool (er == 0)]) (h1.result2 Try.results22 _ rfl rfl _ Try.underlying32 rfl i32) rfl ⟨a, m, b, er, rfl, ⟨HE1.out, HE2.out, fun e0 => ?_⟩, _, _, hn, hs⟩
  obtain ⟨e1, e2, g', e3, e4, e5⟩ := HE4.out e0
  exact ⟨e1, e2, g', e3, Nat.le_trans HB.out.size e4, hz.row e5 (by simpa using e5.ne HRR.out (by decide))⟩
end Go.Proofs.Ytjnmfedefmemnaa
