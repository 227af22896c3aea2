import Derived.Test.YtaklbofbhanjgaaDoorRows0
import Derived.Laws.AppendOwn
import Derived.Laws.AppendOwnNone
import Derived.Laws.OwnMore
import Derived.Laws.MakeOwn
import Derived.Laws.IdiomStrings
import Derived.Laws.Strings
import Derived.Lib.AppendStr
namespace Go.Proofs.YtaklbofbhanjgaaDoor
open Go.RowKit
set_option maxRecDepth 100000
theorem own_ge {w : World} {base : Nat} {e : TypeId} {size : Nat} {v : Value} {n : Nat} {xs : List Value} (h : w.ownsRow base e size v n xs) {g : Nat} (hg : v.ownBlock = some g) : base ≤ g := by
  rcases h.2 with ⟨rfl, _⟩ | ⟨g', cap, cur, rfl, h1, _⟩
  · simp [Value.ownBlock] at hg
  · simp [Value.ownBlock] at hg; omega
theorem own_below {w w' : World} {base : Nat} {e : TypeId} {size : Nat} {v : Value} {n : Nat} {xs : List Value} (h : w.ownsRow base e size v n xs) (hb : Below w.heap.size w w') : w'.ownsRow base e size v n xs := by
  refine ⟨h.1, h.2.imp id ?_⟩
  rintro ⟨g, cap, cur, h1, h2, h3, h4⟩
  exact ⟨g, cap, cur, h1, h2, (hb.block g (Array.getElem?_eq_some_iff.1 h3).1).trans h3, h4⟩
theorem own_lt {w : World} {base : Nat} {e : TypeId} {size : Nat} {v : Value} {n : Nat} {xs : List Value} (h : w.ownsRow base e size v n xs) {g : Nat} (hg : v.ownBlock = some g) : g < w.heap.size := by
  rcases h.2 with ⟨rfl, _⟩ | ⟨g', cap, cur, rfl, h1, h2, _⟩
  · simp [Value.ownBlock] at hg
  · simp [Value.ownBlock] at hg
    subst hg
    exact (Array.getElem?_eq_some_iff.1 h2).1
/-- An own row of bytes. -/
abbrev OwnBy (w : World) (base : Nat) (v : Value) (l : List (BitVec 8)) : Prop := w.ownsRow base 5 1 v l.length (bcells l)
theorem ownBy_shape {w : World} {base : Nat} {v : Value} {l : List (BitVec 8)} (h : OwnBy w base v l) : ∃ a cap, v = .slice a l.length cap ∧ BytesAt w a l ∧ l.length ≤ cap ∧ cap ≤ maxLen ∧ (a = none → cap = 0) ∧ (∀ g o, a = some ⟨g, o, none⟩ → base ≤ g ∧ o = 0 ∧ ∃ cur, w.heap[g]? = some (.cells cur 5 (0, 0)) ∧ cur.size = cap) := by
  obtain ⟨hl, ⟨rfl, hn⟩ | ⟨g, cap, cur, rfl, hb, hg, hnc, hcm, hcs, htk⟩⟩ := h
  · exact ⟨none, 0, by rw [hn], fun k hk => by omega, by omega, Nat.zero_le _, fun _ => rfl, fun g o e => (by cases e)⟩
  · refine ⟨some ⟨g, 0, none⟩, cap, rfl, fun k hk => ⟨g, 0, rfl, ?_⟩, hnc, hcm, fun e => (by cases e), fun g' o e => (by cases e; exact ⟨hb, rfl, cur, hg, by simpa using hcs⟩)⟩
    have h1 := bcells_get hk
    rw [Nat.zero_add, cell_of_row w g _ _ _ _ hg, ← h1, ← htk, List.getElem?_take, if_pos (by omega), Array.getElem?_toList]
/-- Bytes as a string. -/
def strOf (bs : List (BitVec 8)) : ByteArray := ⟨(bs.map UInt8.ofBitVec).toArray⟩
theorem ofBits_inj : ∀ {a b : List (BitVec 8)}, a.map UInt8.ofBitVec = b.map UInt8.ofBitVec → a = b
  | [], [], _ => rfl
  | x :: a, y :: b, h => by
    simp only [List.map_cons, List.cons.injEq] at h
    have h1 : x = y := by injection h.1
    rw [h1, ofBits_inj h.2]
theorem strOf_list (a : List (BitVec 8)) : (strOf a).toList = a.map UInt8.ofBitVec := by rw [ByteArray.toList_eq]; simp [strOf]
theorem convert_any {w : World} {a : Option Addr} {n cap : Nat} {bs : List (BitVec 8)} (hB : BytesAt w a bs) (hn : bs.length = n) : (convert 22 9 (.slice a n cap)).run Tryd.prog w = .ok (.string (strOf bs)) w := by
  cases a with
  | some ad =>
    have h := run_convert_bytes_back (P := Tryd.prog) w 22 9 5 ad cap (bs.map UInt8.ofBitVec) Tryd.underlying22 Tryd.underlying5 Tryd.underlying9 (fun j hj => by
      have hj' : j < bs.length := by simpa using hj
      obtain ⟨g, o, e, c⟩ := hB j hj'
      cases e
      rw [Addr.add_mid, c]
      simp [ub])
    rw [List.length_map, hn] at h
    exact h
  | none =>
    have h0 : bs = [] := by
      cases bs with
      | nil => rfl
      | cons x l => obtain ⟨g, o, e, _⟩ := hB 0 (by simp); cases e
    subst h0
    subst hn
    rw [run_convert_bytes_string w 22 9 5 none _ cap Tryd.underlying22 Tryd.underlying5 Tryd.underlying9]
    rfl
theorem strOf_eq (a b : List (BitVec 8)) : ((strOf a).toList == (strOf b).toList) = decide (a = b) := by
  rw [strOf_list, strOf_list]
  by_cases h : a = b
  · subst h; simp
  · rw [decide_eq_false h, beq_eq_false_iff_ne]
    exact fun e => h (ofBits_inj e)
/-- The same bytes? (bytes.Equal) -/
theorem equal_any {w : World} {a a' : Option Addr} {n n' c c' : Nat} {bs bs' : List (BitVec 8)} (hx : BytesAt w a bs) (hn : bs.length = n) (hy : BytesAt w a' bs') (hn' : bs'.length = n') :
    Calls Tryd.prog 51 #[.slice a n c, .slice a' n' c'] w fun e w' => e = .returned (.bool (decide (bs = bs'))) ∧ w' = w := by
  have h1 := convert_any (cap := c) hx hn
  have h2 := convert_any (cap := c') hy hn'
  have H3 : Hid (((strOf bs).toList == (strOf bs').toList) = decide (bs = bs')) := strOf_eq bs bs'
  clear hx hy hn hn'
  generalize strOf bs = sx at *
  generalize strOf bs' = sy at *
  go_enter Tryd.func51, Tryd.ntmps51
  go_wp2
  go_ret
  refine ⟨?_, rfl⟩
  rw [← H3.out]
  rfl
theorem inf5 : ∃ i : TypeInfo, Tryd.prog.info? 5 = some i ∧ i.zero = some (.int .u8 0) ∧ i.size = 1 ∧ i.bytes = 1 := by
  have h : (Tryd.prog.info? 5).map (fun i => (i.zero, i.size, i.bytes)) = some (some (.int .u8 0), 1, 1) := by kernel_rfl
  cases hq : Tryd.prog.info? 5 with
  | none => rw [hq] at h; cases h
  | some i => rw [hq] at h; simp at h; exact ⟨i, rfl, h.1, h.2.1, h.2.2⟩
/-- 'append' of bytes that may be none to an own row. -/
theorem wpAppendA {ops : Array Oper} {rest : List Oper} {o : Oper} {a : Act} {w : World} {Q : Exit → Act → World → Prop} (s x : Operand) (hgd : o.guard = none) (ho : o.op = .call { callee := .builtin .append, args := #[s, x], argTypes := #[22, 22] })
    {base k : Nat} {v : Value} {old : List (BitVec 8)} (hs : a.eval s = v) (hown : w.ownsRow base 5 1 v k (bcells old)) (hbase : base ≤ w.heap.size)
    {ax : Option Addr} {n c : Nat} {bs : List (BitVec 8)} (hx : a.eval x = .slice ax n c) (hz : ax = none → c = 0) (hn : bs.length = n) (hB : BytesAt w ax bs) (hl : k + n ≤ 140737488355328)
    (h : ∀ w' v', Hid (w'.ownsRow base 5 1 v' (k + n) (bcells (old ++ bs))) → Hid (w.grownBy w' v.ownBlock ∧ (v'.ownBlock = v.ownBlock ∨ v'.ownBlock = some w.heap.size)) → wpList Tryd.prog ops Q rest (a.put o.dst v') w') : wpList Tryd.prog ops Q (o :: rest) a w := by
  obtain ⟨i, h1, h2, h3, h4⟩ := inf5
  subst hn
  cases ax with
  | none =>
    obtain rfl : bs = [] := by
      cases bs with
      | nil => rfl
      | cons b l => obtain ⟨g, o, e, _⟩ := hB 0 (by simp); cases e
    obtain rfl : c = 0 := hz rfl
    refine wpList_append_own_none hgd s x 22 ho base 5 i 1 Tryd.underlying22 h1 v k (bcells old) hs hown hx (h w v ?_ ⟨World.grownBy.refl _ _, .inl rfl⟩)
    show World.ownsRow _ _ _ _ _ _ _
    rw [List.append_nil]
    exact hown
  | some ad =>
    refine wpList_append_own_at w hgd s x 22 ho base 5 i (.int .u8 0) 1 1 Tryd.underlying22 h1 h2 h3 h4 rfl (by decide) v k (bcells old) hs hown ad bs.length c (bcells bs) hx (by rw [bcells_len]; omega) ?_ (bcells_one _) (by unfold maxLen; omega) (by omega) hbase ?_
    · intro j u hv
      have hj : j < bs.length := by
        have := (List.getElem?_eq_some_iff.1 hv).1
        rwa [bcells_len] at this
      obtain ⟨g2, o2, e2, c2⟩ := hB j hj
      cases e2
      rw [bcells_get hj] at hv
      rw [Addr.add_mid, c2]
      exact hv
    · intro v' w' hown' hgrow _ hat
      refine h w' v' ?_ ⟨hgrow, hat⟩
      show World.ownsRow _ _ _ _ _ _ _
      rw [show bcells (old ++ bs) = bcells old ++ bcells bs by simp [bcells]]
      exact hown'
set_option maxHeartbeats 400000 in
theorem more_any {w : World} (c : BitVec 32) {a : Option Addr} {cap : Nat} {bs : List (BitVec 8)} (hB : BytesAt w a bs) (hT : CrcTab w) (hlen : bs.length ≤ 281474976710656) :
    Calls Tryd.prog 78 #[.int .u32 (u c), .slice a bs.length cap] w fun e w' => e = .returned (.int .u32 (u (more c bs))) ∧ w' = w := by
  have HB : Hid _ := hB
  have HT : Hid _ := hT
  clear hB hT
  have hl : (bs.length : Int) ≤ 281474976710656 := by omega
  have HL : Hid _ := hlen
  clear hlen
  go_enter Tryd.func78, Tryd.ntmps78
  go_wp2
  go_loopw [5, 12] (fun r i wr => ∃ k : Nat, k ≤ bs.length ∧ i = .int .i64 k ∧ r = .int .u32 (u (reg (~~~c) (bs.take k))) ∧ wr = w) (fun _ i _ => bs.length - (intOf i).toNat)
  case atStart => exact ⟨0, Nat.zero_le _, rfl, rfl, rfl⟩
  case round =>
    obtain ⟨k, hk, rfl, rfl, rfl⟩ := hrel
    by_cases hlt : k < bs.length
    · obtain ⟨g, o, rfl, c1⟩ := HB.out k hlt
      have hs := reg_snoc (~~~c) bs k hlt
      generalize bs[k] = b at *
      generalize reg (~~~c) (bs.take k) = r at *
      have HS : Hid _ := hs
      clear hs
      have l1 := low4_eq (r ^^^ b.setWidth 32)
      have b1 := low4_lt (r ^^^ b.setWidth 32)
      have t1 := HT.out _ b1
      have e1 : u ((r ^^^ b.setWidth 32) >>> 4 ^^^ crcT[low4 (r ^^^ b.setWidth 32)]'b1) = u (step4 (r ^^^ b.setWidth 32)) := rfl
      rw [← crcT_len] at b1
      have l2 := low4_eq (step4 (r ^^^ b.setWidth 32))
      have b2 := low4_lt (step4 (r ^^^ b.setWidth 32))
      have t2 := HT.out _ b2
      have E : Hid (step4 (r ^^^ b.setWidth 32) = (r ^^^ b.setWidth 32) >>> 4 ^^^ crcT[low4 (r ^^^ b.setWidth 32)]'(low4_lt _)) := rfl
      have E2 : Hid (stepB r b = (step4 (r ^^^ b.setWidth 32)) >>> 4 ^^^ crcT[low4 (step4 (r ^^^ b.setWidth 32))]'(low4_lt _)) := rfl
      generalize crcT[low4 (r ^^^ b.setWidth 32)]'(low4_lt _) = v1 at *
      generalize crcT[low4 (step4 (r ^^^ b.setWidth 32))]'(low4_lt _) = v2 at *
      generalize low4 (r ^^^ b.setWidth 32) = j1 at *
      generalize low4 (step4 (r ^^^ b.setWidth 32)) = j2 at *
      rw [E.out] at l2
      have j1b : (j1 : Int) < 16 := by rw [crcT_len] at b1; omega
      have j2b : (j2 : Int) < 16 := by omega
      clear e1 b1 b2
      go_wp2
      go_roundw
      case rel => exact ⟨k + 1, hlt, by go_num, by rw [HS.out, E2.out, E.out], trivial⟩
      case measure => simp [intOf]; omega
    · have e : k = bs.length := by omega
      subst e
      rw [List.take_length]
      go_wp2
      go_ret
      exact ⟨rfl, rfl⟩

set_option maxHeartbeats 400000 in
theorem crc_any {w : World} {a : Option Addr} {cap : Nat} {ps : List (List (BitVec 8))} (hP : PartsAt w a ps) (hT : CrcTab w) (hlen : ps.length ≤ 281474976710656) :
    Calls Tryd.prog 48 #[.slice a ps.length cap] w fun e w' => e = .returned (.int .u32 (u (crc ps.flatten))) ∧ w' = w := by
  have HP : Hid _ := hP
  have HT : Hid (CrcTab w) := hT
  clear hP hT
  have hl : (ps.length : Int) ≤ 281474976710656 := by omega
  have z : (0 : Int) = u (crc (ps.take 0).flatten) := by rw [List.take_zero, List.flatten_nil]; decide +kernel
  have Z : Hid _ := z
  clear z
  go_enter Tryd.func48, Tryd.ntmps48
  go_wp2
  go_loopw [3, 8] (fun r i wr => ∃ k : Nat, k ≤ ps.length ∧ i = .int .i64 k ∧ r = .int .u32 (u (crc (ps.take k).flatten)) ∧ wr = w) (fun _ i _ => ps.length - (intOf i).toNat)
  case atStart => exact ⟨0, Nat.zero_le _, rfl, by rw [← Z.out], rfl⟩
  case round =>
    obtain ⟨k, hk, rfl, rfl, rfl⟩ := hrel
    by_cases hlt : k < ps.length
    · obtain ⟨g, o, ad, pc, rfl, c1, c2, c3⟩ := HP.out k hlt
      have hs : crc (ps.take (k + 1)).flatten = more (crc (ps.take k).flatten) ps[k] := by
        rw [flat_snoc ps k hlt]; exact (more_append 0#32 _ _).symm
      generalize ps[k] = b at *
      generalize crc (ps.take k).flatten = r at *
      have HS : Hid _ := hs
      have HM : Hid _ := @more_any wr r ad pc b c2 HT.out c3
      clear hs c2 c3
      go_wp2_with (go_at_call 78; refine Calls.mono HM.out ?_; rintro e w' ⟨rfl, rfl⟩)
      go_roundw
      case rel => exact ⟨k + 1, hlt, by go_num, by rw [HS.out], trivial⟩
      case measure => simp [intOf]; omega
    · have e : k = ps.length := by omega
      subst e
      rw [List.take_length]
      go_wp2
      go_ret
      exact ⟨rfl, rfl⟩

end Go.Proofs.YtaklbofbhanjgaaDoor
