import Derived.Test.YtjnmfedefmemnaaData3
import Derived.Test.YtjnmfedefmemnaaOpenOps
namespace Go.Proofs.Ytjnmfedefmemnaa
open Go.RowKit Go.Maps
set_option maxRecDepth 100000

/-- One call, of the data. -/
def Dat.act (D : Dat) (n : Nat) (o : OpV) : Dat :=
  if o.kind = 1 then D.put n o.path o.dir o.frame
  else if o.kind = 2 then D.take n o.path o.dir o.k
  else if o.kind = 3 then D.drop n o.path o.dir o.k
  else if o.kind = 4 then D.double n o.path o.dir o.k
  else if o.kind = 5 then D.spoil n o.path o.dir o.k o.n o.mask
  else if o.kind = 6 then D.set n o.path o.up
  else D
section
variable {B : Nat} {w w1 w2 : World} {p g n K : Nat} {vs vs' : Nat → Nat → Value} {fr fr' : Nat → Nat → List Fr} {D : Dat}
theorem Stays.before (hb : Below w.heap.size w w1) (h : Stays w1 w2 g n vs vs' fr fr') : Stays w w2 g n vs vs' fr fr' := by
  obtain ⟨S, h1, h2⟩ := h.only
  refine ⟨⟨S, (Only.of_below (S := S) hb (Nat.le_refl _)).trans h1 (fun x hx => .inl hx), h2⟩, fun x hx => ?_⟩
  rcases h.own x hx with h3 | h3
  · exact .inl h3
  · exact .inr (Nat.le_trans hb.size h3)
theorem Stays.row (h : Stays w w1 g n vs vs' fr fr') {S : List Nat} (ho : Only S w1 w2) (hS : ∀ x ∈ S, w.heap.size ≤ x) : Stays w w2 g n vs vs' fr fr' := by
  obtain ⟨S1, h1, h2⟩ := h.only
  exact ⟨⟨S1, h1.trans ho (fun x hx => .inr (hS x hx)), h2⟩, h.own⟩
theorem NetP.far {S : List Nat} (h : NetP B w p g n vs fr K D) (ho : Only S w w1) (hS : ∀ x ∈ S, ∃ cc t, Row w x cc t ∧ t ≠ 5 ∧ t ≠ 52 ∧ t ≠ 67 ∧ t ≠ 73 ∧ t ≠ 84) : NetP B w1 p g n vs fr K D := by
  obtain ⟨c, h1, h2⟩ := h
  refine ⟨c, h1.far ho (fun x hx hw => ?_) (fun x hx cc t r => ?_), h2⟩
  · obtain ⟨cc, t, r, n1, n2, n3, n4, n5⟩ := hS x hx
    rcases h1.types hw r with e | e | e
    · exact n3 e
    · exact n4 e
    · exact n5 e
  · obtain ⟨cc', t', r', n1, n2, _⟩ := hS x hx
    rw [r.type r']
    exact ⟨n1, n2⟩
end
theorem NetP.rowKept {B : Nat} {w w' : World} {p g n K : Nat} {vs vs' : Nat → Nat → Value} {fr fr' : Nat → Nat → List Fr} {D : Dat} (h : NetP B w p g n vs fr K D) (hs : Stays w w' g n vs vs' fr fr') {x : Nat} {cc : List Value} {t : TypeId} (r : Row w x cc t) (n1 : t ≠ 67) (n2 : t ≠ 73) (n3 : t ≠ 84) : Row w' x cc t := by
  obtain ⟨c, h1, _⟩ := h
  obtain ⟨S, ho, hS⟩ := hs.only
  refine ho.row r (fun hm => ?_)
  rcases h1.types (hS x hm) r with e | e | e
  · exact n1 e
  · exact n2 e
  · exact n3 e
theorem z32 (w : World) : (zeroValue 32).run Try.prog w = .ok (.agg #[.slice none 0 0, .bool false]) w := by kernel_rfl
set_option maxHeartbeats 1000000 in
theorem act_put {B : Nat} {w : World} {p g n K : Nat} {vs : Nat → Nat → Value} {fr : Nat → Nat → List Fr} {D : Dat} (h : NetP B w p g n vs fr K D) (o : OpV) (hF : BytesAt w o.fa o.frame) (hm : o.frame.length ≤ 140737488351232) (hkind : o.kind = 1) :
    Calls Try.prog 22 #[.pointer (some ⟨p, 0, none⟩), .agg o.cells.toArray] w fun e w' => e = .returned (.tuple #[.agg #[.slice none 0 0, .bool false], .bool false]) ∧ ∃ vs' fr', NetP B w' p g n vs' fr' K (D.put n o.path o.dir o.frame) ∧ Stays w w' g n vs vs' fr fr' := by
  obtain ⟨kind, second, path, dir, k, nn, mask, up, frame, fa, fcap⟩ := o
  simp only at hkind
  subst hkind
  have hb := below_grow (below_grow (Below.refl w.heap.size w) (.cells #[.int .i64 1, .bool second, .int .i64 path, .int .i64 dir, .int .i64 k, .int .i64 nn, .int .u8 (ub mask), .bool up, .slice fa frame.length fcap] 60)) (.cells #[.slice none 0 0, .bool false] 32)
  have r1 : Row ((w.alloc (.cells #[.int .i64 1, .bool second, .int .i64 path, .int .i64 dir, .int .i64 k, .int .i64 nn, .int .u8 (ub mask), .bool up, .slice fa frame.length fcap] 60)).alloc (.cells #[.slice none 0 0, .bool false] 32)) w.heap.size [.int .i64 1, .bool second, .int .i64 path, .int .i64 dir, .int .i64 k, .int .i64 nn, .int .u8 (ub mask), .bool up, .slice fa frame.length fcap] 60 := (Row.new' _ _ _ _ _ rfl rfl).alloc _
  have r2 : Row ((w.alloc (.cells #[.int .i64 1, .bool second, .int .i64 path, .int .i64 dir, .int .i64 k, .int .i64 nn, .int .u8 (ub mask), .bool up, .slice fa frame.length fcap] 60)).alloc (.cells #[.slice none 0 0, .bool false] 32)) (w.heap.size + 1) [.slice none 0 0, .bool false] 32 := Row.new' _ _ _ _ _ (by simp) rfl
  have HN := hid (h.kept hb)
  have HB := hid hb
  simp only at hF hm
  have HF := hid (hF.kept hb)
  have HM := hid hm
  clear hF hm
  have HR2 := hid r2
  have c0 := r1.cell 0 _ rfl
  have c2 := r1.cell 2 _ rfl
  have c3 := r1.cell 3 _ rfl
  have c8 := r1.cell 8 _ rfl
  clear h hb r1 r2
  simp only [OpV.cells]
  go_enter Try.func22, Try.ntmps22
  go_upto_region 1 with (fail)
  generalize ((w.alloc (.cells #[.int .i64 1, .bool second, .int .i64 path, .int .i64 dir, .int .i64 k, .int .i64 nn, .int .u8 (ub mask), .bool up, .slice fa frame.length fcap] 60)).alloc (.cells #[.slice none 0 0, .bool false] 32)) = wa at *
  go_upto_region 15 with (go_at_call 10; refine (NetP.put (cap := fcap) HN.out path dir HF.out HM.out).mono ?_; rintro e w2 ⟨⟨b, er, rfl⟩, vs', fr', hn2, hs2⟩; have HN2 := hid hn2; have HS2 := hid hs2; clear hn2 hs2)
  have HRR := hid (HN.out.rowKept HS2.out HR2.out (by decide) (by decide) (by decide))
  go_wp2_with (show wpList _ _ _ (Oper.mk none (.store 32 (.tmp 4) (.tmp 78)) _ _ _ _ :: _) _ _; refine HRR.out.wpStore' 32 (.tmp 4) (.tmp 78) [.slice none 0 0, .bool false] rfl rfl rfl rfl rfl (by simp [Value.oneCell']) i32 ?_; intro wz HZ)
  have hz : Only [w.heap.size + 1] w2 wz := by rw [HZ.out]; exact (Only.refl _ _).setRow _ _ (.inl (by simp))
  have h1 : Row wz (w.heap.size + 1) [.slice none 0 0, .bool false] 32 := by rw [HZ.out]; exact HRR.out.row _
  have hn := HN2.out.far hz (fun x hx => ⟨_, 32, (by simpa using hx : x = w.heap.size + 1) ▸ HRR.out, by decide, by decide, by decide, by decide, by decide⟩)
  have hs := (Stays.before HB.out HS2.out).row hz (fun x hx => by rw [show x = w.heap.size + 1 by simpa using hx]; omega)
  exact bodyPost_ret (v := .tuple #[.agg #[.slice none 0 0, .bool false], .bool false]) (h1.result2 Try.results22 _ rfl rfl _ Try.underlying32 rfl i32) rfl ⟨rfl, _, _, hn, hs⟩
set_option maxHeartbeats 1000000 in
theorem act_drop {B : Nat} {w : World} {p g n K : Nat} {vs : Nat → Nat → Value} {fr : Nat → Nat → List Fr} {D : Dat} (h : NetP B w p g n vs fr K D) (o : OpV) (hkind : o.kind = 3) :
    Calls Try.prog 22 #[.pointer (some ⟨p, 0, none⟩), .agg o.cells.toArray] w fun e w' => e = .returned (.tuple #[.agg #[.slice none 0 0, .bool false], .bool false]) ∧ ∃ vs' fr', NetP B w' p g n vs' fr' K (D.drop n o.path o.dir o.k) ∧ Stays w w' g n vs vs' fr fr' := by
  obtain ⟨kind, second, path, dir, k, nn, mask, up, frame, fa, fcap⟩ := o
  simp only at hkind
  subst hkind
  have hb := below_grow (below_grow (Below.refl w.heap.size w) (.cells #[.int .i64 3, .bool second, .int .i64 path, .int .i64 dir, .int .i64 k, .int .i64 nn, .int .u8 (ub mask), .bool up, .slice fa frame.length fcap] 60)) (.cells #[.slice none 0 0, .bool false] 32)
  have r1 : Row ((w.alloc (.cells #[.int .i64 3, .bool second, .int .i64 path, .int .i64 dir, .int .i64 k, .int .i64 nn, .int .u8 (ub mask), .bool up, .slice fa frame.length fcap] 60)).alloc (.cells #[.slice none 0 0, .bool false] 32)) w.heap.size [.int .i64 3, .bool second, .int .i64 path, .int .i64 dir, .int .i64 k, .int .i64 nn, .int .u8 (ub mask), .bool up, .slice fa frame.length fcap] 60 := (Row.new' _ _ _ _ _ rfl rfl).alloc _
  have r2 : Row ((w.alloc (.cells #[.int .i64 3, .bool second, .int .i64 path, .int .i64 dir, .int .i64 k, .int .i64 nn, .int .u8 (ub mask), .bool up, .slice fa frame.length fcap] 60)).alloc (.cells #[.slice none 0 0, .bool false] 32)) (w.heap.size + 1) [.slice none 0 0, .bool false] 32 := Row.new' _ _ _ _ _ (by simp) rfl
  have HN := hid (h.kept hb)
  have HB := hid hb
  have HR2 := hid r2
  have c0 := r1.cell 0 _ rfl
  have c2 := r1.cell 2 _ rfl
  have c3 := r1.cell 3 _ rfl
  have c4 := r1.cell 4 _ rfl
  clear h hb r1 r2
  simp only [OpV.cells]
  go_enter Try.func22, Try.ntmps22
  go_upto_region 1 with (fail)
  generalize ((w.alloc (.cells #[.int .i64 3, .bool second, .int .i64 path, .int .i64 dir, .int .i64 k, .int .i64 nn, .int .u8 (ub mask), .bool up, .slice fa frame.length fcap] 60)).alloc (.cells #[.slice none 0 0, .bool false] 32)) = wa at *
  go_upto_region 15 with (go_at_call 20; refine (NetP.drop HN.out path dir k).mono ?_; rintro e w2 ⟨⟨er, rfl⟩, vs', fr', hn2, hs2⟩; have HN2 := hid hn2; have HS2 := hid hs2; clear hn2 hs2)
  have HRR := hid (HN.out.rowKept HS2.out HR2.out (by decide) (by decide) (by decide))
  go_wp2_with (show wpList _ _ _ (Oper.mk none (.store 32 (.tmp 4) (.tmp 78)) _ _ _ _ :: _) _ _; refine HRR.out.wpStore' 32 (.tmp 4) (.tmp 78) [.slice none 0 0, .bool false] rfl rfl rfl rfl rfl (by simp [Value.oneCell']) i32 ?_; intro wz HZ)
  have hz : Only [w.heap.size + 1] w2 wz := by rw [HZ.out]; exact (Only.refl _ _).setRow _ _ (.inl (by simp))
  have h1 : Row wz (w.heap.size + 1) [.slice none 0 0, .bool false] 32 := by rw [HZ.out]; exact HRR.out.row _
  have hn := HN2.out.far hz (fun x hx => ⟨_, 32, (by simpa using hx : x = w.heap.size + 1) ▸ HRR.out, by decide, by decide, by decide, by decide, by decide⟩)
  have hs := (Stays.before HB.out HS2.out).row hz (fun x hx => by rw [show x = w.heap.size + 1 by simpa using hx]; omega)
  exact bodyPost_ret (v := .tuple #[.agg #[.slice none 0 0, .bool false], .bool false]) (h1.result2 Try.results22 _ rfl rfl _ Try.underlying32 rfl i32) rfl ⟨rfl, _, _, hn, hs⟩
set_option maxHeartbeats 1000000 in
theorem act_double {B : Nat} {w : World} {p g n K : Nat} {vs : Nat → Nat → Value} {fr : Nat → Nat → List Fr} {D : Dat} (h : NetP B w p g n vs fr K D) (o : OpV) (hkind : o.kind = 4) :
    Calls Try.prog 22 #[.pointer (some ⟨p, 0, none⟩), .agg o.cells.toArray] w fun e w' => e = .returned (.tuple #[.agg #[.slice none 0 0, .bool false], .bool false]) ∧ ∃ vs' fr', NetP B w' p g n vs' fr' K (D.double n o.path o.dir o.k) ∧ Stays w w' g n vs vs' fr fr' := by
  obtain ⟨kind, second, path, dir, k, nn, mask, up, frame, fa, fcap⟩ := o
  simp only at hkind
  subst hkind
  have hb := below_grow (below_grow (Below.refl w.heap.size w) (.cells #[.int .i64 4, .bool second, .int .i64 path, .int .i64 dir, .int .i64 k, .int .i64 nn, .int .u8 (ub mask), .bool up, .slice fa frame.length fcap] 60)) (.cells #[.slice none 0 0, .bool false] 32)
  have r1 : Row ((w.alloc (.cells #[.int .i64 4, .bool second, .int .i64 path, .int .i64 dir, .int .i64 k, .int .i64 nn, .int .u8 (ub mask), .bool up, .slice fa frame.length fcap] 60)).alloc (.cells #[.slice none 0 0, .bool false] 32)) w.heap.size [.int .i64 4, .bool second, .int .i64 path, .int .i64 dir, .int .i64 k, .int .i64 nn, .int .u8 (ub mask), .bool up, .slice fa frame.length fcap] 60 := (Row.new' _ _ _ _ _ rfl rfl).alloc _
  have r2 : Row ((w.alloc (.cells #[.int .i64 4, .bool second, .int .i64 path, .int .i64 dir, .int .i64 k, .int .i64 nn, .int .u8 (ub mask), .bool up, .slice fa frame.length fcap] 60)).alloc (.cells #[.slice none 0 0, .bool false] 32)) (w.heap.size + 1) [.slice none 0 0, .bool false] 32 := Row.new' _ _ _ _ _ (by simp) rfl
  have HN := hid (h.kept hb)
  have HB := hid hb
  have HR2 := hid r2
  have c0 := r1.cell 0 _ rfl
  have c2 := r1.cell 2 _ rfl
  have c3 := r1.cell 3 _ rfl
  have c4 := r1.cell 4 _ rfl
  clear h hb r1 r2
  simp only [OpV.cells]
  go_enter Try.func22, Try.ntmps22
  go_upto_region 1 with (fail)
  generalize ((w.alloc (.cells #[.int .i64 4, .bool second, .int .i64 path, .int .i64 dir, .int .i64 k, .int .i64 nn, .int .u8 (ub mask), .bool up, .slice fa frame.length fcap] 60)).alloc (.cells #[.slice none 0 0, .bool false] 32)) = wa at *
  go_upto_region 15 with (go_at_call 11; refine (NetP.double HN.out path dir k).mono ?_; rintro e w2 ⟨⟨b, er, rfl⟩, vs', fr', hn2, hs2⟩; have HN2 := hid hn2; have HS2 := hid hs2; clear hn2 hs2)
  have HRR := hid (HN.out.rowKept HS2.out HR2.out (by decide) (by decide) (by decide))
  go_wp2_with (show wpList _ _ _ (Oper.mk none (.store 32 (.tmp 4) (.tmp 78)) _ _ _ _ :: _) _ _; refine HRR.out.wpStore' 32 (.tmp 4) (.tmp 78) [.slice none 0 0, .bool false] rfl rfl rfl rfl rfl (by simp [Value.oneCell']) i32 ?_; intro wz HZ)
  have hz : Only [w.heap.size + 1] w2 wz := by rw [HZ.out]; exact (Only.refl _ _).setRow _ _ (.inl (by simp))
  have h1 : Row wz (w.heap.size + 1) [.slice none 0 0, .bool false] 32 := by rw [HZ.out]; exact HRR.out.row _
  have hn := HN2.out.far hz (fun x hx => ⟨_, 32, (by simpa using hx : x = w.heap.size + 1) ▸ HRR.out, by decide, by decide, by decide, by decide, by decide⟩)
  have hs := (Stays.before HB.out HS2.out).row hz (fun x hx => by rw [show x = w.heap.size + 1 by simpa using hx]; omega)
  exact bodyPost_ret (v := .tuple #[.agg #[.slice none 0 0, .bool false], .bool false]) (h1.result2 Try.results22 _ rfl rfl _ Try.underlying32 rfl i32) rfl ⟨rfl, _, _, hn, hs⟩
set_option maxHeartbeats 1000000 in
theorem act_spoil {B : Nat} {w : World} {p g n K : Nat} {vs : Nat → Nat → Value} {fr : Nat → Nat → List Fr} {D : Dat} (h : NetP B w p g n vs fr K D) (o : OpV) (hK : K < 281474976710656) (hkind : o.kind = 5) :
    Calls Try.prog 22 #[.pointer (some ⟨p, 0, none⟩), .agg o.cells.toArray] w fun e w' => e = .returned (.tuple #[.agg #[.slice none 0 0, .bool false], .bool false]) ∧ ∃ vs' fr', NetP B w' p g n vs' fr' (K + 1) (D.spoil n o.path o.dir o.k o.n o.mask) ∧ Stays w w' g n vs vs' fr fr' := by
  obtain ⟨kind, second, path, dir, k, nn, mask, up, frame, fa, fcap⟩ := o
  simp only at hkind
  subst hkind
  have hb := below_grow (below_grow (Below.refl w.heap.size w) (.cells #[.int .i64 5, .bool second, .int .i64 path, .int .i64 dir, .int .i64 k, .int .i64 nn, .int .u8 (ub mask), .bool up, .slice fa frame.length fcap] 60)) (.cells #[.slice none 0 0, .bool false] 32)
  have r1 : Row ((w.alloc (.cells #[.int .i64 5, .bool second, .int .i64 path, .int .i64 dir, .int .i64 k, .int .i64 nn, .int .u8 (ub mask), .bool up, .slice fa frame.length fcap] 60)).alloc (.cells #[.slice none 0 0, .bool false] 32)) w.heap.size [.int .i64 5, .bool second, .int .i64 path, .int .i64 dir, .int .i64 k, .int .i64 nn, .int .u8 (ub mask), .bool up, .slice fa frame.length fcap] 60 := (Row.new' _ _ _ _ _ rfl rfl).alloc _
  have r2 : Row ((w.alloc (.cells #[.int .i64 5, .bool second, .int .i64 path, .int .i64 dir, .int .i64 k, .int .i64 nn, .int .u8 (ub mask), .bool up, .slice fa frame.length fcap] 60)).alloc (.cells #[.slice none 0 0, .bool false] 32)) (w.heap.size + 1) [.slice none 0 0, .bool false] 32 := Row.new' _ _ _ _ _ (by simp) rfl
  have HN := hid (h.kept hb)
  have HB := hid hb
  have HK := hid hK
  have HR2 := hid r2
  have c0 := r1.cell 0 _ rfl
  have c2 := r1.cell 2 _ rfl
  have c3 := r1.cell 3 _ rfl
  have c4 := r1.cell 4 _ rfl
  have c5 := r1.cell 5 _ rfl
  have c6 := r1.cell 6 _ rfl
  clear h hb r1 r2
  simp only [OpV.cells]
  go_enter Try.func22, Try.ntmps22
  go_upto_region 1 with (fail)
  generalize ((w.alloc (.cells #[.int .i64 5, .bool second, .int .i64 path, .int .i64 dir, .int .i64 k, .int .i64 nn, .int .u8 (ub mask), .bool up, .slice fa frame.length fcap] 60)).alloc (.cells #[.slice none 0 0, .bool false] 32)) = wa at *
  go_upto_region 15 with (go_at_call 17; refine (NetP.spoil HN.out path dir k nn mask HK.out).mono ?_; rintro e w2 ⟨⟨er, rfl⟩, vs', fr', hn2, hs2⟩; have HN2 := hid hn2; have HS2 := hid hs2; clear hn2 hs2)
  have HRR := hid (HN.out.rowKept HS2.out HR2.out (by decide) (by decide) (by decide))
  go_wp2_with (show wpList _ _ _ (Oper.mk none (.store 32 (.tmp 4) (.tmp 78)) _ _ _ _ :: _) _ _; refine HRR.out.wpStore' 32 (.tmp 4) (.tmp 78) [.slice none 0 0, .bool false] rfl rfl rfl rfl rfl (by simp [Value.oneCell']) i32 ?_; intro wz HZ)
  have hz : Only [w.heap.size + 1] w2 wz := by rw [HZ.out]; exact (Only.refl _ _).setRow _ _ (.inl (by simp))
  have h1 : Row wz (w.heap.size + 1) [.slice none 0 0, .bool false] 32 := by rw [HZ.out]; exact HRR.out.row _
  have hn := HN2.out.far hz (fun x hx => ⟨_, 32, (by simpa using hx : x = w.heap.size + 1) ▸ HRR.out, by decide, by decide, by decide, by decide, by decide⟩)
  have hs := (Stays.before HB.out HS2.out).row hz (fun x hx => by rw [show x = w.heap.size + 1 by simpa using hx]; omega)
  exact bodyPost_ret (v := .tuple #[.agg #[.slice none 0 0, .bool false], .bool false]) (h1.result2 Try.results22 _ rfl rfl _ Try.underlying32 rfl i32) rfl ⟨rfl, _, _, hn, hs⟩
set_option maxHeartbeats 1000000 in
theorem act_set {B : Nat} {w : World} {p g n K : Nat} {vs : Nat → Nat → Value} {fr : Nat → Nat → List Fr} {D : Dat} (h : NetP B w p g n vs fr K D) (o : OpV) (hkind : o.kind = 6) :
    Calls Try.prog 22 #[.pointer (some ⟨p, 0, none⟩), .agg o.cells.toArray] w fun e w' => e = .returned (.tuple #[.agg #[.slice none 0 0, .bool false], .bool false]) ∧ ∃ vs' fr', NetP B w' p g n vs' fr' K (D.set n o.path o.up) ∧ Stays w w' g n vs vs' fr fr' := by
  obtain ⟨kind, second, path, dir, k, nn, mask, up, frame, fa, fcap⟩ := o
  simp only at hkind
  subst hkind
  have hb := below_grow (below_grow (Below.refl w.heap.size w) (.cells #[.int .i64 6, .bool second, .int .i64 path, .int .i64 dir, .int .i64 k, .int .i64 nn, .int .u8 (ub mask), .bool up, .slice fa frame.length fcap] 60)) (.cells #[.slice none 0 0, .bool false] 32)
  have r1 : Row ((w.alloc (.cells #[.int .i64 6, .bool second, .int .i64 path, .int .i64 dir, .int .i64 k, .int .i64 nn, .int .u8 (ub mask), .bool up, .slice fa frame.length fcap] 60)).alloc (.cells #[.slice none 0 0, .bool false] 32)) w.heap.size [.int .i64 6, .bool second, .int .i64 path, .int .i64 dir, .int .i64 k, .int .i64 nn, .int .u8 (ub mask), .bool up, .slice fa frame.length fcap] 60 := (Row.new' _ _ _ _ _ rfl rfl).alloc _
  have r2 : Row ((w.alloc (.cells #[.int .i64 6, .bool second, .int .i64 path, .int .i64 dir, .int .i64 k, .int .i64 nn, .int .u8 (ub mask), .bool up, .slice fa frame.length fcap] 60)).alloc (.cells #[.slice none 0 0, .bool false] 32)) (w.heap.size + 1) [.slice none 0 0, .bool false] 32 := Row.new' _ _ _ _ _ (by simp) rfl
  have HN := hid (h.kept hb)
  have HB := hid hb
  have HR2 := hid r2
  have c0 := r1.cell 0 _ rfl
  have c2 := r1.cell 2 _ rfl
  have c7 := r1.cell 7 _ rfl
  clear h hb r1 r2
  simp only [OpV.cells]
  go_enter Try.func22, Try.ntmps22
  go_upto_region 1 with (fail)
  generalize ((w.alloc (.cells #[.int .i64 6, .bool second, .int .i64 path, .int .i64 dir, .int .i64 k, .int .i64 nn, .int .u8 (ub mask), .bool up, .slice fa frame.length fcap] 60)).alloc (.cells #[.slice none 0 0, .bool false] 32)) = wa at *
  go_upto_region 15 with (go_at_call 18; refine (NetP.set HN.out path up).mono ?_; rintro e w2 ⟨⟨er, rfl⟩, vs', fr', hn2, hs2⟩; have HN2 := hid hn2; have HS2 := hid hs2; clear hn2 hs2)
  have HRR := hid (HN.out.rowKept HS2.out HR2.out (by decide) (by decide) (by decide))
  go_wp2_with (show wpList _ _ _ (Oper.mk none (.store 32 (.tmp 4) (.tmp 78)) _ _ _ _ :: _) _ _; refine HRR.out.wpStore' 32 (.tmp 4) (.tmp 78) [.slice none 0 0, .bool false] rfl rfl rfl rfl rfl (by simp [Value.oneCell']) i32 ?_; intro wz HZ)
  have hz : Only [w.heap.size + 1] w2 wz := by rw [HZ.out]; exact (Only.refl _ _).setRow _ _ (.inl (by simp))
  have h1 : Row wz (w.heap.size + 1) [.slice none 0 0, .bool false] 32 := by rw [HZ.out]; exact HRR.out.row _
  have hn := HN2.out.far hz (fun x hx => ⟨_, 32, (by simpa using hx : x = w.heap.size + 1) ▸ HRR.out, by decide, by decide, by decide, by decide, by decide⟩)
  have hs := (Stays.before HB.out HS2.out).row hz (fun x hx => by rw [show x = w.heap.size + 1 by simpa using hx]; omega)
  exact bodyPost_ret (v := .tuple #[.agg #[.slice none 0 0, .bool false], .bool false]) (h1.result2 Try.results22 _ rfl rfl _ Try.underlying32 rfl i32) rfl ⟨rfl, _, _, hn, hs⟩
set_option maxHeartbeats 1000000 in
theorem act_other {B : Nat} {w : World} {p g n K : Nat} {vs : Nat → Nat → Value} {fr : Nat → Nat → List Fr} {D : Dat} (h : NetP B w p g n vs fr K D) (o : OpV) (hkind : ¬ (o.kind = 1 ∨ o.kind = 2 ∨ o.kind = 3 ∨ o.kind = 4 ∨ o.kind = 5 ∨ o.kind = 6)) :
    Calls Try.prog 22 #[.pointer (some ⟨p, 0, none⟩), .agg o.cells.toArray] w fun e w' => e = .returned (.tuple #[.agg #[.slice none 0 0, .bool false], .bool false]) ∧ ∃ vs' fr', NetP B w' p g n vs' fr' K (D) ∧ Stays w w' g n vs vs' fr fr' := by
  obtain ⟨kind, second, path, dir, k, nn, mask, up, frame, fa, fcap⟩ := o
  simp only at hkind
  have n1 : decide (kind = 1) = false := decide_eq_false (by omega)
  have n2 : decide (kind = 2) = false := decide_eq_false (by omega)
  have n3 : decide (kind = 3) = false := decide_eq_false (by omega)
  have n4 : decide (kind = 4) = false := decide_eq_false (by omega)
  have n5 : decide (kind = 5) = false := decide_eq_false (by omega)
  have n6 : decide (kind = 6) = false := decide_eq_false (by omega)
  have hb := below_grow (below_grow (Below.refl w.heap.size w) (.cells #[.int .i64 kind, .bool second, .int .i64 path, .int .i64 dir, .int .i64 k, .int .i64 nn, .int .u8 (ub mask), .bool up, .slice fa frame.length fcap] 60)) (.cells #[.slice none 0 0, .bool false] 32)
  have r1 : Row ((w.alloc (.cells #[.int .i64 kind, .bool second, .int .i64 path, .int .i64 dir, .int .i64 k, .int .i64 nn, .int .u8 (ub mask), .bool up, .slice fa frame.length fcap] 60)).alloc (.cells #[.slice none 0 0, .bool false] 32)) w.heap.size [.int .i64 kind, .bool second, .int .i64 path, .int .i64 dir, .int .i64 k, .int .i64 nn, .int .u8 (ub mask), .bool up, .slice fa frame.length fcap] 60 := (Row.new' _ _ _ _ _ rfl rfl).alloc _
  have r2 : Row ((w.alloc (.cells #[.int .i64 kind, .bool second, .int .i64 path, .int .i64 dir, .int .i64 k, .int .i64 nn, .int .u8 (ub mask), .bool up, .slice fa frame.length fcap] 60)).alloc (.cells #[.slice none 0 0, .bool false] 32)) (w.heap.size + 1) [.slice none 0 0, .bool false] 32 := Row.new' _ _ _ _ _ (by simp) rfl
  have HN := hid (h.kept hb)
  have HB := hid hb
  have HR2 := hid r2
  have c0 := r1.cell 0 _ rfl
  clear h hb r1 r2
  simp only [OpV.cells]
  go_enter Try.func22, Try.ntmps22
  go_upto_region 1 with (fail)
  generalize ((w.alloc (.cells #[.int .i64 kind, .bool second, .int .i64 path, .int .i64 dir, .int .i64 k, .int .i64 nn, .int .u8 (ub mask), .bool up, .slice fa frame.length fcap] 60)).alloc (.cells #[.slice none 0 0, .bool false] 32)) = wa at *
  have HS2 := hid (Stays.below (g := g) (n := n) (vs := vs) (fr := fr) (Below.refl wa.heap.size wa))
  have HN2 := HN
  go_upto_region 15 with (fail)
  have HRR := hid (HN.out.rowKept HS2.out HR2.out (by decide) (by decide) (by decide))
  go_wp2_with (show wpList _ _ _ (Oper.mk none (.store 32 (.tmp 4) (.tmp 78)) _ _ _ _ :: _) _ _; refine HRR.out.wpStore' 32 (.tmp 4) (.tmp 78) [.slice none 0 0, .bool false] rfl rfl rfl rfl rfl (by simp [Value.oneCell']) i32 ?_; intro wz HZ)
  have hz : Only [w.heap.size + 1] wa wz := by rw [HZ.out]; exact (Only.refl _ _).setRow _ _ (.inl (by simp))
  have h1 : Row wz (w.heap.size + 1) [.slice none 0 0, .bool false] 32 := by rw [HZ.out]; exact HRR.out.row _
  have hn := HN2.out.far hz (fun x hx => ⟨_, 32, (by simpa using hx : x = w.heap.size + 1) ▸ HRR.out, by decide, by decide, by decide, by decide, by decide⟩)
  have hs := (Stays.before HB.out HS2.out).row hz (fun x hx => by rw [show x = w.heap.size + 1 by simpa using hx]; omega)
  exact bodyPost_ret (v := .tuple #[.agg #[.slice none 0 0, .bool false], .bool false]) (h1.result2 Try.results22 _ rfl rfl _ Try.underlying32 rfl i32) rfl ⟨rfl, _, _, hn, hs⟩
end Go.Proofs.Ytjnmfedefmemnaa
