import Derived.Test.YtimiokbnhneggaaState
import Derived.Lib.SlBytesConst
namespace Go.Proofs.Ytimiokbnhneggaa
open Go.RowKit Go.Maps Go.Sort
set_option maxRecDepth 100000

/-- Take, at whatever chunk. -/
def Bf.tk (F : Bf) (off n : Int) : Bf := if F.refuses off n = 0 then F.took off n else F
def Bf.tkf (F : Bf) (f : Int → BitVec 8) (off : Int) (d : List (BitVec 8)) : Int → BitVec 8 := if F.refuses off d.length = 0 then F.new f off d else f
def Bf.tkn (F : Bf) (off n : Int) : Int := if F.refuses off n = 0 then freshOf F.L (F.rg off n) else 0
/-- The buffer, its bytes, and what it has of the memory. -/
def Buf (w : World) (p : Nat) (F : Bf) (f : Int → BitVec 8) (S : Nat → Prop) : Prop := ∃ v b n D, BufAt w p v b n D F f ∧ ∀ k, Foot p v b D k → S k
theorem Buf.r {w : World} {p : Nat} {F : Bf} {f : Int → BitVec 8} {S : Nat → Prop} (h : Buf w p F f S) : ∃ v b, BufR w p v b F := by
  obtain ⟨v, b, n, D, h1, _⟩ := h
  exact ⟨v, b, h1.r⟩
theorem Buf.ok {w : World} {p : Nat} {F : Bf} {f : Int → BitVec 8} {S : Nat → Prop} (h : Buf w p F f S) : F.Ok := by
  obtain ⟨v, b, h⟩ := h.r
  exact h.ok
theorem BufAt.kept {w w' : World} {p b n : Nat} {v : Value} {D : DM} {F : Bf} {f : Int → BitVec 8} (h : BufAt w p v b n D F f) (hb : Below w.heap.size w w') : BufAt w' p v b n D F f :=
  ⟨h.r.kept hb, h.sto.kept_below hb, fun x hx => (h.byt x hx).kept_below hb, h.few⟩
theorem BufAt.foot_lt {w : World} {p b n : Nat} {v : Value} {D : DM} {F : Bf} {f : Int → BitVec 8} (h : BufAt w p v b n D F f) {k : Nat} (hk : Foot p v b D k) : k < w.heap.size := by
  rcases hk with rfl | e | e
  · exact h.r.row.lt
  · rcases h.r.set.own.2 with ⟨rfl, _⟩ | ⟨g, c, cur, rfl, _, hg, _⟩
    · simp [Value.ownBlock] at e
    · simp only [Value.ownBlock, Option.some.injEq] at e
      subst e
      exact (Array.getElem?_eq_some_iff.1 hg).1
  · exact h.sto.lt e
/-- What other blocks were turned does not touch the buffer. -/
theorem BufAt.apart {w w' : World} {p b n : Nat} {v : Value} {D : DM} {F : Bf} {f : Int → BitVec 8} (h : BufAt w p v b n D F f) {T : Nat → Prop} (hf : Fr T w w') (hT : ∀ k, Foot p v b D k → ¬ T k) : BufAt w' p v b n D F f := by
  refine ⟨⟨⟨(hf.block p h.r.row.lt (hT p (.inl rfl))).trans h.r.set.hp, h.r.set.own.1, ?_⟩, h.r.ok⟩, h.sto.kept hf (fun k hk => hT k (.inr (.inr hk))), fun x hx => (h.byt x hx).kept hf (fun k hk => hT k (.inr (.inr hk))), h.few⟩
  rcases h.r.set.own.2 with e | ⟨g, c, cur, hv, h1, hg, h2⟩
  · exact .inl e
  · exact .inr ⟨g, c, cur, hv, h1, (hf.block g (Array.getElem?_eq_some_iff.1 hg).1 (hT g (.inr (.inl (by rw [hv]; rfl))))).trans hg, h2⟩
theorem Buf.kept {w w' : World} {p : Nat} {F : Bf} {f : Int → BitVec 8} {S : Nat → Prop} (h : Buf w p F f S) (hb : Below w.heap.size w w') : Buf w' p F f S := by
  obtain ⟨v, b, n, D, h1, h2⟩ := h
  exact ⟨v, b, n, D, h1.kept hb, h2⟩
theorem Buf.apart {w w' : World} {p : Nat} {F : Bf} {f : Int → BitVec 8} {S : Nat → Prop} (h : Buf w p F f S) {T : Nat → Prop} (hf : Fr T w w') (hT : ∀ k, S k → ¬ T k) : Buf w' p F f S := by
  obtain ⟨v, b, n, D, h1, h2⟩ := h
  exact ⟨v, b, n, D, h1.apart hf (fun k hk => hT k (h2 k hk)), h2⟩
theorem take_any {w : World} {p : Nat} {F : Bf} {f : Int → BitVec 8} {S : Nat → Prop} (H : Buf w p F f S) {off : Int} (h0 : 0 ≤ off) (hx : off ≤ 18446744073709551615) {d : List (BitVec 8)} {a : Option Addr} {cap : Nat} (hcap : d.length ≤ cap) (hcm : cap ≤ maxLen) (hB : BytesAt w a d)
    (hS : ∀ g o, a = some ⟨g, o, none⟩ → ¬ S g) (N : Nat) (hN : d.length = N) :
    Calls Try.prog 11 #[.pointer (some ⟨p, 0, none⟩), .int .u64 off, .slice a N cap] w fun e w' => e = .returned (.tuple #[.int .i64 (F.tkn off N), .int .i64 (F.refuses off N)]) ∧
      ∃ S', Buf w' p (F.tk off N) (F.tkf f off d) S' ∧ Fr S w w' ∧ ∀ k, S' k → S k ∨ w.heap.size ≤ k := by
  obtain ⟨v, b, n, D, h1, h2⟩ := H
  unfold Bf.tkn Bf.tk Bf.tkf
  rw [hN]
  by_cases hr : F.refuses off N = 0
  · rw [if_pos hr, if_pos hr, if_pos hr, hr]
    refine (take_some h1 h0 hcap hcm hB (fun g o e hs => hS g o e (h2 g (.inr (.inr hs)))) N hN hr (F.rg off N).1 (F.rg off N).2 rfl).mono ?_
    rintro e w' ⟨rfl, v', n', D', r1, r2, r3⟩
    exact ⟨rfl, Foot p v' b D', ⟨v', b, n', D', r1, fun k hk => hk⟩, r2.wider h2, fun k hk => by rcases r3 k hk with e | e; exact .inl (h2 k e); exact .inr e⟩
  · rw [if_neg hr, if_neg hr, if_neg hr]
    refine (take_no h1.r h0 hx N (by omega) hcm hr).mono ?_
    rintro e w' ⟨rfl, hb⟩
    exact ⟨rfl, S, ⟨v, b, n, D, h1.kept hb, h2⟩, Fr.of_below hb (Nat.le_refl _), fun k hk => .inl hk⟩
/-- What a Read answers, and what it leaves. -/
def Bf.rdOn (F : Bf) (n : Int) : Bf := if n < 0 ∨ F.gap = F.read then F else F.readOn n
def Bf.rdB (F : Bf) (f : Int → BitVec 8) (n : Int) : List (BitVec 8) := if n < 0 ∨ F.gap = F.read then [] else bytesFrom f F.read (F.cnt n)
theorem read_any {w : World} {p : Nat} {F : Bf} {f : Int → BitVec 8} {S : Nat → Prop} (H : Buf w p F f S) (n : Int) (hn : 0 ≤ n) (hn1 : n ≤ 9223372036854775807) (hm : F.read + F.room ≤ F.base + 2305843009213693952) :
    Calls Try.prog 12 #[.pointer (some ⟨p, 0, none⟩), .int .i64 n] w fun e w' => ∃ a, e = .returned (.tuple #[.slice a (F.rdB f n).length (F.rdB f n).length, .bool (decide (F.gap = F.read) && F.done), .int .i64 0]) ∧ BytesAt w' a (F.rdB f n) ∧
      (∀ g o, a = some ⟨g, o, none⟩ → w.heap.size ≤ g ∧ o = 0 ∧ Row w' g (bcells (F.rdB f n)) 5) ∧ ∃ S', Buf w' p (F.rdOn n) f S' ∧ Fr S w w' ∧ (∀ k, S' k → S k ∨ w.heap.size ≤ k) ∧ ∀ g o, a = some ⟨g, o, none⟩ → ¬ S' g := by
  obtain ⟨v, b, k, D, h1, h2⟩ := H
  unfold Bf.rdOn Bf.rdB
  by_cases hg : F.gap = F.read
  · rw [if_pos (.inr hg), if_pos (.inr hg)]
    refine (read_nil h1.r n hn hg).mono ?_
    rintro e w' ⟨rfl, hb⟩
    refine ⟨none, by simp [hg], fun i hi => (by simp at hi), fun g o e => (by cases e), S, ⟨v, b, k, D, h1.kept hb, h2⟩, Fr.of_below hb (Nat.le_refl _), fun _ h => .inl h, fun g o e => (by cases e)⟩
  · have hc : ¬ (n < 0 ∨ F.gap = F.read) := by omega
    rw [if_neg hc, if_neg hc]
    refine (read_some h1 n hn hn1 hm hg (F.cnt n) rfl).mono ?_
    rintro e w' ⟨go, rfl, hgo, v', D', r1, r2, r3, r4, r5⟩
    refine ⟨some ⟨go, 0, none⟩, by simp [hg, bytesFrom_len], r4.bytes, fun g o e => ?_, Foot p v' b D', ⟨v', b, k, D', r1, fun _ h => h⟩, r2.wider h2, fun k hk => by rcases r3 k hk with e | e; exact .inl (h2 k e); exact .inr e, fun g o e => ?_⟩
    · cases e; exact ⟨hgo, rfl, r4⟩
    · cases e; exact r5
theorem Buf.tight {w : World} {p : Nat} {F : Bf} {f : Int → BitVec 8} {S : Nat → Prop} (h : Buf w p F f S) : Buf w p F f (fun k => S k ∧ k < w.heap.size) := by
  obtain ⟨v, b, n, D, h1, h2⟩ := h
  exact ⟨v, b, n, D, h1, fun k hk => ⟨h2 k hk, h1.foot_lt hk⟩⟩
theorem Buf.wider {w : World} {p : Nat} {F : Bf} {f : Int → BitVec 8} {S T : Nat → Prop} (h : Buf w p F f S) (hT : ∀ k, S k → T k) : Buf w p F f T := by
  obtain ⟨v, b, n, D, h1, h2⟩ := h
  exact ⟨v, b, n, D, h1, fun k hk => hT k (h2 k hk)⟩
/-- Take of bytes that are made at the call; the buffer lies from B on. -/
theorem take_new {B : Nat} {w : World} {p : Nat} {F : Bf} {f : Int → BitVec 8} (H : Buf w p F f (fun k => B ≤ k)) (hB : B ≤ w.heap.size) {off : Int} (h0 : 0 ≤ off) (hx : off ≤ 18446744073709551615) (d : List (BitVec 8)) (N : Nat) (hN : d.length = N) (hl : N ≤ 1000) (fz : Nat × Nat) :
    Calls Try.prog 11 #[.pointer (some ⟨p, 0, none⟩), .int .u64 off, .slice (some ⟨w.heap.size, 0, none⟩) N N] (w.alloc (.cells (bcells d).toArray 5 fz)) fun e w' => e = .returned (.tuple #[.int .i64 (F.tkn off N), .int .i64 (F.refuses off N)]) ∧
      Buf w' p (F.tk off N) (F.tkf f off d) (fun k => B ≤ k) ∧ Below B w w' := by
  have hb1 : Below w.heap.size w (w.alloc (.cells (bcells d).toArray 5 fz)) := (Below.refl _ _).alloc (Nat.le_refl _) _
  have H1 := H.tight.kept hb1
  have hr : BytesAt (w.alloc (.cells (bcells d).toArray 5 fz)) (some ⟨w.heap.size, 0, none⟩) d := fun k hk => ⟨_, _, rfl, by rw [Nat.zero_add, cell_of_row _ _ _ _ _ _ (heap_alloc_new w _)]; simpa using bcells_get hk⟩
  refine (take_any H1 h0 hx (cap := N) (by omega) (by unfold maxLen; omega) hr (fun g o e hs => by cases e; omega) N hN).mono ?_
  rintro e w' ⟨rfl, S', r1, r2, r3⟩
  have hs1 : (w.alloc (.cells (bcells d).toArray 5 fz)).heap.size = w.heap.size + 1 := by simp
  refine ⟨rfl, r1.wider (fun k hk => by rcases r3 k hk with e | e; exact e.1; omega), ?_⟩
  exact (hb1.mono hB).trans (r2.below (fun x hx => hx.1) (by omega))
/-- Read, the buffer from B on. -/
theorem read_new {B : Nat} {w : World} {p : Nat} {F : Bf} {f : Int → BitVec 8} (H : Buf w p F f (fun k => B ≤ k)) (hB : B ≤ w.heap.size) (n : Int) (hn : 0 ≤ n) (hn1 : n ≤ 9223372036854775807) (hm : F.read + F.room ≤ F.base + 2305843009213693952) (bs : List (BitVec 8)) (hbs : F.rdB f n = bs) (N : Nat) (hN : bs.length = N) :
    Calls Try.prog 12 #[.pointer (some ⟨p, 0, none⟩), .int .i64 n] w fun e w' => ∃ a, e = .returned (.tuple #[.slice a N N, .bool (decide (F.gap = F.read) && F.done), .int .i64 0]) ∧ BytesAt w' a bs ∧ Buf w' p (F.rdOn n) f (fun k => B ≤ k) ∧ Below B w w' := by
  refine (read_any H n hn hn1 hm).mono ?_
  rintro e w' ⟨a, rfl, ha, _, S', r1, r2, r3, _⟩
  subst hbs
  subst hN
  exact ⟨a, rfl, ha, r1.wider (fun k hk => by rcases r3 k hk with e | e; exact e; omega), r2.below (fun x hx => hx) hB⟩
/-- What the lively example does. -/
def al0 : Bf := Bf.zero 10 8 4
def al1 : Bf := al0.tk 12 2
def al2 : Bf := al1.tk 10 4
def alf : Int → BitVec 8 := al1.tkf (al0.tkf (fun _ => 0#8) 12 [99#8, 100#8]) 10 [97#8, 98#8, 88#8, 89#8]
theorem al_t1 : al0.tkn 12 2 = 2 ∧ al0.refuses 12 2 = 0 := by decide +kernel
theorem al_t2 : al1.tkn 10 4 = 2 ∧ al1.refuses 10 4 = 0 := by decide +kernel
theorem al_rd : al2.rdB alf 9 = [97#8, 98#8, 99#8, 100#8] := by decide +kernel
theorem al_dn : (decide (al2.gap = al2.read) && al2.done) = false := by decide +kernel
theorem al_ed : (al2.rdOn 9).edge = 22 := by decide +kernel
theorem al_rm : al2.read + al2.room ≤ al2.base + 2305843009213693952 := by decide +kernel
theorem bsl2 (w : World) (x y : Int) : (Instr.buildSlice 22 2 #[(0, .int .u8 x), (1, .int .u8 y)]).run Try.prog w = .ok (.slice (some ⟨w.heap.size, 0, none⟩) 2 2) (w.alloc (.cells #[.int .u8 x, .int .u8 y] 5)) := by kernel_rfl
theorem bsl4 (w : World) (x y z t : Int) : (Instr.buildSlice 22 4 #[(0, .int .u8 x), (1, .int .u8 y), (2, .int .u8 z), (3, .int .u8 t)]).run Try.prog w = .ok (.slice (some ⟨w.heap.size, 0, none⟩) 4 4) (w.alloc (.cells #[.int .u8 x, .int .u8 y, .int .u8 z, .int .u8 t] 5)) := by kernel_rfl
theorem cv2 (w : World) : (convert 22 22 (.slice (some ⟨w.heap.size, 0, none⟩) 2 2)).run Try.prog (w.alloc (.cells #[.int .u8 99, .int .u8 100] 5)) = .ok (.slice (some ⟨w.heap.size, 0, none⟩) 2 2) (w.alloc (.cells #[.int .u8 99, .int .u8 100] 5 (2, 3))) := Lib.run_convert_bytes_const w 22 5 #[.int .u8 99, .int .u8 100] 2 2 Try.underlying22 Try.underlying5
theorem cv4 (w : World) : (convert 22 22 (.slice (some ⟨w.heap.size, 0, none⟩) 4 4)).run Try.prog (w.alloc (.cells #[.int .u8 97, .int .u8 98, .int .u8 88, .int .u8 89] 5)) = .ok (.slice (some ⟨w.heap.size, 0, none⟩) 4 4) (w.alloc (.cells #[.int .u8 97, .int .u8 98, .int .u8 88, .int .u8 89] 5 (4, 5))) := Lib.run_convert_bytes_const w 22 5 #[.int .u8 97, .int .u8 98, .int .u8 88, .int .u8 89] 4 4 Try.underlying22 Try.underlying5
theorem al_b1 : (bcells [99#8, 100#8]).toArray = #[.int .u8 99, .int .u8 100] := by rfl
theorem al_b2 : (bcells [97#8, 98#8, 88#8, 89#8]).toArray = #[.int .u8 97, .int .u8 98, .int .u8 88, .int .u8 89] := by rfl
theorem al_str : strOf [97#8, 98#8, 99#8, 100#8] = { data := #[97, 98, 99, 100] } := by rfl
set_option maxHeartbeats 2000000 in
theorem alive_any (w : World) : Calls Try.prog 13 #[] w fun e w' => e = .returned (.bool true) ∧ Below w.heap.size w w' := by
  have hNew := bnew_ok w (base := 10) (room := 8) (gaps := 4) (by omega) (by omega) (by omega) (by omega) (by omega) (by omega) (fun _ => 0#8)
  have hb2 := bsl2
  have hb4 := bsl4
  have hc2 := cv2
  have hc4 := cv4
  go_enter Try.func13, Try.ntmps13
  go_upto_region 4 with (go_at_call 9; refine hNew.mono ?_; rintro e w1 ⟨p, b, rfl, hB, hb1, hf⟩; have HA1 : Hid (Buf w1 p al0 (fun _ => 0#8) (fun k => w.heap.size ≤ k)) := ⟨_, _, _, _, hB, hf⟩; have HB1 := hid hb1; clear hB hb1 hf hNew)
  have HT1 := hid (take_new HA1.out HB1.out.size (off := 12) (by omega) (by omega) [99#8, 100#8] 2 rfl (by omega) (2, 3))
  rw [al_b1, show ((2 : Nat) : Int) = 2 from rfl, al_t1.1, al_t1.2, show al0.tk 12 2 = al1 from rfl] at HT1
  go_upto_region 5 with (go_at_call 11; refine HT1.out.mono ?_; rintro e w2 ⟨rfl, hB2, hb2'⟩; have HA2 := hid hB2; have HB2 : Hid (Below w.heap.size w w2) := HB1.out.trans hb2'; clear hB2 hb2')
  have HT2 := hid (take_new HA2.out HB2.out.size (off := 10) (by omega) (by omega) [97#8, 98#8, 88#8, 89#8] 4 rfl (by omega) (4, 5))
  rw [al_b2, show ((4 : Nat) : Int) = 4 from rfl, al_t2.1, al_t2.2, show al1.tk 10 4 = al2 from rfl, show al1.tkf (al0.tkf (fun _ => 0#8) 12 [99#8, 100#8]) 10 [97#8, 98#8, 88#8, 89#8] = alf from rfl] at HT2
  go_upto_region 6 with (go_at_call 11; refine HT2.out.mono ?_; rintro e w3 ⟨rfl, hB3, hb3⟩; have HA3 := hid hB3; have HB3 : Hid (Below w.heap.size w w3) := HB2.out.trans hb3; clear hB3 hb3)
  have HT3 := hid (read_new HA3.out HB3.out.size 9 (by omega) (by omega) al_rm [97#8, 98#8, 99#8, 100#8] al_rd 4 rfl)
  rw [al_dn] at HT3
  go_upto_region 7 with (go_at_call 12; refine HT3.out.mono ?_; rintro e w4 ⟨a4, rfl, ha4, hB4, hb4'⟩; have HA4 := hid hB4; have HB4 : Hid (Below w.heap.size w w4) := HB3.out.trans hb4'; have hcv := convert_any (n := 4) (cap := 4) ha4 rfl; clear hB4 hb4' ha4)
  obtain ⟨vv, bb, hR4⟩ := HA4.out.r
  have hE := edge_any hR4
  rw [al_ed] at hE
  rw [al_str] at hcv
  clear HT1 HT2 HT3 HA1 HA2 HA3 hb2 hb4 hR4 hc2 hc4
  go_wp2_with (go_at_call 17; refine hE.mono ?_; rintro e w5 ⟨rfl, q, rfl⟩)
  go_ret
  exact ⟨rfl, below_drewN HB4.out q⟩
end Go.Proofs.Ytimiokbnhneggaa
