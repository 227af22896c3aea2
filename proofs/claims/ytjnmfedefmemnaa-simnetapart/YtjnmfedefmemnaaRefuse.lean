import Derived.Test.YtjnmfedefmemnaaDark0
namespace Go.Proofs.Ytjnmfedefmemnaa
open Go.RowKit
set_option maxRecDepth 100000

/-- What a call answers that refuses: an error, and nothing is written. -/
def Refuses (i : FuncId) (args : Array Value) (w : World) (r : Value) : Prop := Calls Try.prog i args w fun e w' => e = .returned r ∧ w' = w
section
variable {w : World} {p n g : Nat}
set_option maxHeartbeats 400000 in
theorem road_out (h : w.cell? ⟨p, 0, none⟩ = some (.slice (some ⟨g, 0, none⟩) n n)) {x : Int} (hx : x < 0 ∨ (n : Int) ≤ x) : Refuses 34 #[.pointer (some ⟨p, 0, none⟩), .int .i64 x] w (.pointer none) := by
  show Calls _ _ _ _ _
  have HP := hid (paths_at h)
  clear h
  by_cases h0 : x < 0
  · have h1 : decide (x < 0) = true := decide_eq_true h0
    go_enter Try.func34, Try.ntmps34
    go_wp2_with (go_at_call 19; refine Calls.mono HP.out ?_; rintro e w' ⟨rfl, rfl⟩)
    go_ret
    exact ⟨rfl, rfl⟩
  · have h1 : decide (x < 0) = false := decide_eq_false h0
    have h2 : (n : Int) ≤ x := by omega
    have h3 : decide (x ≥ (n : Int)) = true := decide_eq_true h2
    have h4 : decide ((n : Int) ≤ x) = true := decide_eq_true h2
    go_enter Try.func34, Try.ntmps34
    go_wp2_with (go_at_call 19; refine Calls.mono HP.out ?_; rintro e w' ⟨rfl, rfl⟩)
    go_ret
    exact ⟨rfl, rfl⟩
set_option maxHeartbeats 400000 in
theorem bag_path (h : w.cell? ⟨p, 0, none⟩ = some (.slice (some ⟨g, 0, none⟩) n n)) {x : Int} (hx : x < 0 ∨ (n : Int) ≤ x) (y : Int) : Refuses 23 #[.pointer (some ⟨p, 0, none⟩), .int .i64 x, .int .i64 y] w (.tuple #[.pointer none, .int .i64 42]) := by
  show Calls _ _ _ _ _
  have HP := hid (road_out h hx)
  clear h hx
  go_enter Try.func23, Try.ntmps23
  go_wp2_with (go_at_call 34; refine Calls.mono HP.out ?_; rintro e w' ⟨rfl, rfl⟩)
  go_ret2
  exact ⟨rfl, rfl⟩
set_option maxHeartbeats 400000 in
theorem bag_dir (h : w.cell? ⟨p, 0, none⟩ = some (.slice (some ⟨g, 0, none⟩) n n)) {k : Nat} (hk : k < n) {y : Int} (hy : y < 0 ∨ 2 ≤ y) : Refuses 23 #[.pointer (some ⟨p, 0, none⟩), .int .i64 k, .int .i64 y] w (.tuple #[.pointer none, .int .i64 43]) := by
  show Calls _ _ _ _ _
  have HP := hid (road_in h hk)
  clear h
  by_cases h0 : y < 0
  · have h1 : decide (y < 0) = true := decide_eq_true h0
    go_enter Try.func23, Try.ntmps23
    go_wp2_with (go_at_call 34; refine Calls.mono HP.out ?_; rintro e w' ⟨rfl, rfl⟩)
    go_ret2
    exact ⟨rfl, rfl⟩
  · have h1 : decide (y < 0) = false := decide_eq_false h0
    have h2 : 2 ≤ y := by omega
    have h3 : decide (y ≥ 2) = true := decide_eq_true h2
    have h4 : decide (2 ≤ y) = true := decide_eq_true h2
    go_enter Try.func23, Try.ntmps23
    go_wp2_with (go_at_call 34; refine Calls.mono HP.out ?_; rintro e w' ⟨rfl, rfl⟩)
    go_ret2
    exact ⟨rfl, rfl⟩
set_option maxHeartbeats 400000 in
/-- find hands the bag's error on. -/
theorem find_er {x y er : Int} (h0 : er ≠ 0) (h : Refuses 23 #[.pointer (some ⟨p, 0, none⟩), .int .i64 x, .int .i64 y] w (.tuple #[.pointer none, .int .i64 er])) (z : Int) (b f : Value) : Refuses 27 #[.pointer (some ⟨p, 0, none⟩), .int .i64 x, .int .i64 y, .int .i64 z, b, f] w (.int .i64 er) := by
  show Calls _ _ _ _ _
  have HP := hid h
  have h1 : decide (er = 0) = false := decide_eq_false h0
  clear h
  go_enter Try.func27, Try.ntmps27
  go_wp2_with (go_at_call 23; refine Calls.mono HP.out ?_; rintro e w' ⟨rfl, rfl⟩)
  go_ret
  exact ⟨rfl, rfl⟩
set_option maxHeartbeats 1000000 in
/-- No frame lies in that place. -/
theorem find_place {k d : Nat} {c : List Value} {v : Value} {qs : List Nat} {z : Int} {up b : Bool} (f : Value) (HN : Row w p [.slice (some ⟨g, 0, none⟩) n n] 52) (R : Row w g c 67) (hk : k < n) (hd : d < 2) (hup : c[k * 16]? = some (.bool up)) (hb : b = false ∨ up = true) (hv : c[k * 16 + 14 + d]? = some v) (hB : BagAt w v qs) (hz : z < 0 ∨ (qs.length : Int) ≤ z) :
    Refuses 27 #[.pointer (some ⟨p, 0, none⟩), .int .i64 k, .int .i64 d, .int .i64 z, .bool b, f] w (.int .i64 45) := by
  show Calls _ _ _ _ _
  have HBI := hid (bag_in (HN.cell 0 _ rfl) hk hd)
  have c0 := R.cell _ _ hup
  have c1 := R.cell _ _ hv
  obtain ⟨a, cap, rfl⟩ := hB.shape
  have k1 : (0 : Int) ≤ (d : Int) := by omega
  have k2 : (d : Int) < 2 := by omega
  clear R hup HN hk hv hB
  by_cases h0 : z < 0
  · have h1 : decide (z < 0) = true := decide_eq_true h0
    rcases (show b = false ∨ (b = true ∧ up = true) by cases b <;> simp_all) with rfl | ⟨rfl, rfl⟩
    all_goals
      go_enter Try.func27, Try.ntmps27
      go_wp2_with (go_at_call 23; refine Calls.mono HBI.out ?_; rintro e w' ⟨rfl, rfl⟩)
      go_ret
      exact ⟨rfl, rfl⟩
  · have h1 : decide (z < 0) = false := decide_eq_false h0
    have h2 : (qs.length : Int) ≤ z := by omega
    have h3 : decide (z ≥ (qs.length : Int)) = true := decide_eq_true h2
    have h4 : decide ((qs.length : Int) ≤ z) = true := decide_eq_true h2
    rcases (show b = false ∨ (b = true ∧ up = true) by cases b <;> simp_all) with rfl | ⟨rfl, rfl⟩
    all_goals
      go_enter Try.func27, Try.ntmps27
      go_wp2_with (go_at_call 23; refine Calls.mono HBI.out ?_; rintro e w' ⟨rfl, rfl⟩)
      go_ret
      exact ⟨rfl, rfl⟩
set_option maxHeartbeats 400000 in
theorem put_er {x y er : Int} (h0 : er ≠ 0) (h : Refuses 23 #[.pointer (some ⟨p, 0, none⟩), .int .i64 x, .int .i64 y] w (.tuple #[.pointer none, .int .i64 er])) (f : Value) : Refuses 10 #[.pointer (some ⟨p, 0, none⟩), .int .i64 x, .int .i64 y, f] w (.tuple #[.bool false, .int .i64 er]) := by
  show Calls _ _ _ _ _
  have HP := hid h
  have h1 : decide (er = 0) = false := decide_eq_false h0
  clear h
  go_enter Try.func10, Try.ntmps10
  go_wp2_with (go_at_call 23; refine Calls.mono HP.out ?_; rintro e w' ⟨rfl, rfl⟩)
  go_ret2
  exact ⟨rfl, rfl⟩
set_option maxHeartbeats 400000 in
theorem set_out (h : w.cell? ⟨p, 0, none⟩ = some (.slice (some ⟨g, 0, none⟩) n n)) {x : Int} (hx : x < 0 ∨ (n : Int) ≤ x) (b : Value) : Refuses 18 #[.pointer (some ⟨p, 0, none⟩), .int .i64 x, b] w (.int .i64 42) := by
  show Calls _ _ _ _ _
  have HP := hid (road_out h hx)
  clear h hx
  go_enter Try.func18, Try.ntmps18
  go_wp2_with (go_at_call 34; refine Calls.mono HP.out ?_; rintro e w' ⟨rfl, rfl⟩)
  go_ret
  exact ⟨rfl, rfl⟩
/-- find refuses, in whatever memory the call has laid beside. -/
def FindEr (w : World) (p : Nat) (x y z : Int) (b : Bool) (er : Int) : Prop := ∀ w' f, Below w.heap.size w w' → Refuses 27 #[.pointer (some ⟨p, 0, none⟩), .int .i64 x, .int .i64 y, .int .i64 z, .bool b, f] w' (.int .i64 er)
set_option maxHeartbeats 400000 in
theorem drop_er {x y z er : Int} (h : FindEr w p x y z false er) : Calls Try.prog 20 #[.pointer (some ⟨p, 0, none⟩), .int .i64 x, .int .i64 y, .int .i64 z] w fun e w' => e = .returned (.int .i64 er) ∧ Below w.heap.size w w' := by
  have H := hid h
  clear h
  go_enter Try.func20, Try.ntmps20
  go_wp2_with fail
  have hb := below_grow (below_grow (Below.refl w.heap.size w) (.cells #[.int .i64 y] 3)) (.cells #[.int .i64 z] 3)
  refine Calls.mono (H.out _ _ hb) ?_
  rintro e w' ⟨rfl, rfl⟩
  have HB := hid hb
  clear hb
  go_wp2
  go_ret
  exact ⟨rfl, HB.out⟩
set_option maxHeartbeats 400000 in
theorem spoil_er {x y z er : Int} (h : FindEr w p x y z false er) (a m : Int) : Calls Try.prog 17 #[.pointer (some ⟨p, 0, none⟩), .int .i64 x, .int .i64 y, .int .i64 z, .int .i64 a, .int .u8 m] w fun e w' => e = .returned (.int .i64 er) ∧ Below w.heap.size w w' := by
  have H := hid h
  clear h
  go_enter Try.func17, Try.ntmps17
  go_wp2_with fail
  have hb := below_grow (below_grow (Below.refl w.heap.size w) (.cells #[.int .i64 a] 3)) (.cells #[.int .u8 m] 5)
  refine Calls.mono (H.out _ _ hb) ?_
  rintro e w' ⟨rfl, rfl⟩
  have HB := hid hb
  clear hb
  go_wp2
  go_ret
  exact ⟨rfl, HB.out⟩
set_option maxHeartbeats 400000 in
theorem double_er {x y z er : Int} (h : FindEr w p x y z true er) : Calls Try.prog 11 #[.pointer (some ⟨p, 0, none⟩), .int .i64 x, .int .i64 y, .int .i64 z] w fun e w' => e = .returned (.tuple #[.bool false, .int .i64 er]) ∧ Below w.heap.size w w' := by
  have H := hid h
  clear h
  go_enter Try.func11, Try.ntmps11
  go_wp2_with fail
  have hb := below_grow (below_grow (Below.refl w.heap.size w) (.cells #[.int .i64 y] 3)) (.cells #[.bool false] 4)
  refine Calls.mono (H.out _ _ hb) ?_
  rintro e w' ⟨rfl, rfl⟩
  have HB := hid hb
  clear hb
  go_wp2
  go_ret2
  exact ⟨rfl, HB.out⟩
set_option maxHeartbeats 400000 in
theorem peek_er {x y z er : Int} (h : FindEr w p x y z false er) : Calls Try.prog 12 #[.pointer (some ⟨p, 0, none⟩), .int .i64 x, .int .i64 y, .int .i64 z] w fun e w' => e = .returned (.tuple #[.agg #[.slice none 0 0, .bool false], .int .i64 er]) ∧ Below w.heap.size w w' := by
  have H := hid h
  clear h
  go_enter Try.func12, Try.ntmps12
  go_wp2_with fail
  have hb := below_grow (below_grow (Below.refl w.heap.size w) (.cells #[.slice none 0 0, .bool false] 32)) (.cells #[.slice none 0 0, .bool false] 32)
  refine Calls.mono (H.out _ _ hb) ?_
  rintro e w' ⟨rfl, rfl⟩
  have HB := hid hb
  clear hb
  go_wp2
  have R : Row ((w.alloc (.cells #[.slice none 0 0, .bool false] 32)).alloc (.cells #[.slice none 0 0, .bool false] 32)) w.heap.size [.slice none 0 0, .bool false] 32 := (Row.new' _ _ _ _ _ rfl rfl).alloc _
  exact bodyPost_ret (v := .tuple #[.agg #[.slice none 0 0, .bool false], .int .i64 er]) (R.result2 Try.results12 _ rfl rfl _ Try.underlying32 rfl i32) rfl ⟨rfl, HB.out⟩
set_option maxHeartbeats 400000 in
theorem take_er {x y z er : Int} (h : FindEr w p x y z true er) : Calls Try.prog 13 #[.pointer (some ⟨p, 0, none⟩), .int .i64 x, .int .i64 y, .int .i64 z] w fun e w' => e = .returned (.tuple #[.agg #[.slice none 0 0, .bool false], .int .i64 er]) ∧ Below w.heap.size w w' := by
  have H := hid h
  clear h
  go_enter Try.func13, Try.ntmps13
  go_wp2_with fail
  have hb := below_grow (below_grow (below_grow (below_grow (Below.refl w.heap.size w) (.cells #[.int .i64 y] 3)) (.cells #[.int .i64 z] 3)) (.cells #[.slice none 0 0, .bool false] 32)) (.cells #[.slice none 0 0, .bool false] 32)
  refine Calls.mono (H.out _ _ hb) ?_
  rintro e w' ⟨rfl, rfl⟩
  have HB := hid hb
  clear hb
  go_wp2
  have R : Row ((((w.alloc (.cells #[.int .i64 y] 3)).alloc (.cells #[.int .i64 z] 3)).alloc (.cells #[.slice none 0 0, .bool false] 32)).alloc (.cells #[.slice none 0 0, .bool false] 32)) (w.heap.size + 1 + 1) [.slice none 0 0, .bool false] 32 := (Row.new' _ _ _ _ _ (by simp) rfl).alloc _
  exact bodyPost_ret (v := .tuple #[.agg #[.slice none 0 0, .bool false], .int .i64 er]) (R.result2 Try.results13 _ rfl rfl _ Try.underlying32 rfl i32) rfl ⟨rfl, HB.out⟩
end
end Go.Proofs.Ytjnmfedefmemnaa
