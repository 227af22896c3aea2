import Derived.Test.YtjhkoanjocdboaaDoorNobody
namespace Go.Proofs.YtjhkoanjocdboaaDoor
open Go.RowKit
set_option maxRecDepth 100000

theorem BytesAt.off {w : World} {a : Option Addr} {bs : List (BitVec 8)} (h : BytesAt w a bs) {p : Nat} (hp : w.heap.size ≤ p) : BytesOff p w a bs := fun k hk => by
  obtain ⟨g, o, e, c⟩ := h k hk
  have := World.block_lt_of_cell? w _ c
  exact ⟨g, o, e, by simp only at this; omega, c⟩
theorem BytesOff.kept {p : Nat} {w w' : World} {a : Option Addr} {bs : List (BitVec 8)} (h : BytesOff p w a bs) (hb : Below w.heap.size w w') : BytesOff p w' a bs := fun k hk => by
  obtain ⟨g, o, e, hg, c⟩ := h k hk
  exact ⟨g, o, e, hg, cell_kept hb c⟩
theorem NoHash.only {w w' : World} {v : Value} {p : Nat} (h : NoHash w v) (ho : Only p w w') (hp : ∀ q, v = .pointer (some ⟨q, 0, none⟩) → q ≠ p) : NoHash w' v := by
  rcases h with h | ⟨q, h, R⟩
  · exact .inl h
  · exact .inr ⟨q, h, ho.row R (hp q h)⟩
theorem built39z : Tryd.prog.built 39 [] = some hz.toArray := by kernel_rfl
theorem wpBuild39z {ops : Array Oper} {rest : List Oper} {o : Oper} {a : Act} {w : World} {Q : Exit → Act → World → Prop} (hgd : o.guard = none) (ho : o.op = .build 39 #[])
    (k : wpList Tryd.prog ops Q rest (a.put o.dst (.agg hz.toArray)) w) : wpList Tryd.prog ops Q (o :: rest) a w := by
  refine wpList_build hgd 39 _ ho (by simp [built39z]) ?_
  simpa [built39z] using k

theorem eq44 (w : World) : (Op.equalIn 10000 44 (.agg (bcells z32).toArray) (.agg #[.int .u8 0, .int .u8 0, .int .u8 0, .int .u8 0, .int .u8 0, .int .u8 0, .int .u8 0, .int .u8 0, .int .u8 0, .int .u8 0, .int .u8 0, .int .u8 0, .int .u8 0, .int .u8 0, .int .u8 0, .int .u8 0, .int .u8 0, .int .u8 0, .int .u8 0, .int .u8 0, .int .u8 0, .int .u8 0, .int .u8 0, .int .u8 0, .int .u8 0, .int .u8 0, .int .u8 0, .int .u8 0, .int .u8 0, .int .u8 0, .int .u8 0, .int .u8 0])).run Tryd.prog w = .ok true w := by kernel_rfl
theorem size_small {w : World} {p : Nat} {c : List (BitVec 8)} (h : HashAt w p c) (hc : c.length ≤ 281474976710656) : Calls Tryd.prog 17 #[.pointer (some ⟨p, 0, none⟩)] w fun e w' => e = .returned (.int .u64 (c.length : Int)) ∧ w' = w := by
  have := size_any h
  rwa [Nat.mod_eq_of_lt (by omega)] at this
set_option maxHeartbeats 1000000 in
theorem nobody_any {w : World} (pl : Bool) {a : Option Addr} {cap : Nat} {bs : List (BitVec 8)} (hB : BytesAt w a bs) (hlen : bs.length ≤ cap) (hcap : cap ≤ 281474976710656) (hK : KTab w) (h2 : 2 ≤ w.heap.size) :
    Calls Tryd.prog 4 #[.bool pl, .slice a bs.length cap] w fun e w' => e = .returned (.bool true) ∧ Below w.heap.size w w' := by
  have hz39 := z39
  have heq := eq44
  have HBY : Hid (BytesAt w a bs) := hB
  have HK : Hid (KTab w) := hK
  have HLE : Hid _ := hlen
  have HCA : Hid _ := hcap
  have H2 : Hid _ := h2
  have hli : (bs.length : Int) ≤ 281474976710656 := by omega
  have HM : Hid (bs.length % 18446744073709551616 = bs.length) := Nat.mod_eq_of_lt (by omega)
  clear hB hK hlen hcap h2
  cases pl
  · go_enter Tryd.func4, Tryd.ntmps4
    go_wp2_with (first
      | (go_at_call 15; refine (new_any _).mono ?_; rintro e w1 ⟨p, rfl, hp, hh, hb⟩; have HP : Hid _ := hp; have HH : Hid _ := hh; have HB1 : Hid _ := hb; clear hp hh hb)
      | (go_at_call_of 16 (Value.pointer (some ⟨p, 0, none⟩)); refine (write_any HH.out (Nat.le_trans H2.out HP.out) (HK.out.kept HB1.out) ((HBY.out.off HP.out).kept HB1.out) HLE.out HCA.out).mono ?_; rintro e w3 ⟨rfl, hh, ho⟩; have HH3 : Hid _ := hh; have HO3 : Hid _ := ho; clear hh ho)
      | (go_at_call_of 16 (Value.pointer none); refine (write_no (.inl rfl) _).mono ?_; rintro e w' ⟨rfl, rfl⟩)
      | (go_at_call_of 17 (Value.pointer (some ⟨p, 0, none⟩)); refine (size_small HH3.out (Nat.le_trans HLE.out HCA.out)).mono ?_; rintro e w' ⟨rfl, rfl⟩)
      | (go_at_call 18; refine (sum_no (.inl rfl)).mono ?_; rintro e w5 ⟨rfl, hb⟩; have HB5 : Hid _ := hb; clear hb)
      | (go_at_call_of 17 (Value.pointer none); refine (size_no (.inl rfl)).mono ?_; rintro e w' ⟨rfl, rfl⟩)
      | (go_at_call 19; refine (fork_no (.inl rfl)).mono ?_; rintro e w' ⟨rfl, rfl⟩))
    go_ret
    refine ⟨rfl, ?_⟩
    exact HB1.out.trans (((HO3.out.below HB1.out.size HP.out)).trans (HB5.out.mono (Nat.le_trans HB1.out.size HO3.out.size)))
  · go_enter Tryd.func4, Tryd.ntmps4
    go_upto_region 4 with (show wpList _ _ _ (Oper.mk (some 8) (.build 39 #[]) _ _ _ _ :: _) _ _; refine wpBuild39z rfl rfl ?_)
    refine wp_world fun wa HW => ?_
    have R0 : Hid (Row wa w.heap.size hz 39) := by show Row _ _ _ _; rw [HW.out]; exact Row.new _ _ _
    have HBa : Hid (Below w.heap.size w wa) := by show Below _ _ _; rw [HW.out]; exact (Below.refl _ _).alloc (Nat.le_refl _) _
    have HWS : Hid (w.heap.size < wa.heap.size) := R0.out.lt
    generalize hq : w.heap.size = q at *
    have HQ : Hid _ := hq
    clear HW hq
    go_wp2_with (first
      | (go_at_call 15; refine (new_any _).mono ?_; rintro e w1 ⟨p, rfl, hp, hh, hb⟩; have HP : Hid _ := hp; have HH : Hid _ := hh; have HB1 : Hid _ := hb; have HN : Hid (p ≠ q) := (by show p ≠ q; have := HWS.out; omega); have HN1 : Hid (NoHash w1 (.pointer (some ⟨q, 0, none⟩))) := (.inr ⟨q, rfl, R0.out.kept hb R0.out.lt⟩); clear hp hh hb)
      | (go_at_call_of 16 (Value.pointer (some ⟨p, 0, none⟩)); refine (write_any HH.out (by have h1 := H2.out; have h2 := HP.out; have h3 := HWS.out; omega) ((HK.out.kept (HQ.out ▸ HBa.out)).kept HB1.out) ((((HBY.out.off (by have h1 := HQ.out; have h2 := HP.out; have h3 := HWS.out; omega)).kept (HQ.out ▸ HBa.out))).kept HB1.out) HLE.out HCA.out).mono ?_; rintro e w3 ⟨rfl, hh, ho⟩; have HH3 : Hid _ := hh; have HO3 : Hid _ := ho; have HN3 : Hid (NoHash w3 (.pointer (some ⟨q, 0, none⟩))) := (HN1.out.only ho (fun q' e => by cases e; exact fun h => HN.out h.symm)); clear hh ho)
      | (go_at_call_of 16 (Value.pointer (some ⟨q, 0, none⟩)); refine (write_no HN3.out _).mono ?_; rintro e w' ⟨rfl, rfl⟩)
      | (go_at_call_of 17 (Value.pointer (some ⟨p, 0, none⟩)); refine (size_small HH3.out (Nat.le_trans HLE.out HCA.out)).mono ?_; rintro e w' ⟨rfl, rfl⟩)
      | (go_at_call 18; refine (sum_no HN3.out).mono ?_; rintro e w5 ⟨rfl, hb⟩; have HB5 : Hid _ := hb; have HN5 : Hid _ := HN3.out.kept hb; clear hb)
      | (go_at_call_of 17 (Value.pointer (some ⟨q, 0, none⟩)); refine (size_no HN5.out).mono ?_; rintro e w' ⟨rfl, rfl⟩)
      | (go_at_call 19; refine (fork_no HN5.out).mono ?_; rintro e w' ⟨rfl, rfl⟩))
    go_ret
    refine ⟨rfl, ?_⟩
    have hqs : q ≤ wa.heap.size := Nat.le_of_lt HWS.out
    have hps : q ≤ p := Nat.le_trans hqs HP.out
    rw [HQ.out]
    exact HBa.out.trans ((HB1.out.mono hqs).trans ((HO3.out.below (Nat.le_trans hqs HB1.out.size) hps).trans (HB5.out.mono (Nat.le_trans hqs (Nat.le_trans HB1.out.size HO3.out.size)))))
end Go.Proofs.YtjhkoanjocdboaaDoor
