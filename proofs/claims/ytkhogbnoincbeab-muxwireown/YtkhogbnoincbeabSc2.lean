import Derived.Test.YtkhogbnoincbeabSc1
namespace Go.Proofs.Ytkhogbnoincbeab
open Go.RowKit Go.Maps Go.Sort
set_option maxRecDepth 100000

/-- What was read of a frame. -/
structure PF where
  k : Int
  s : Int
  n : Int
  c : Int
  h : Int
  bs : List (BitVec 8)
def PF.zero : PF := ⟨0, 0, 0, 0, 0, []⟩
/-- The bytes of what was read: none, or in new memory. -/
def Dt (w : World) (B : Nat) (d : Value) (bs : List (BitVec 8)) : Prop := (d = .slice none 0 0 ∧ bs = []) ∨ ∃ g, d = .slice (some ⟨g, 0, none⟩) bs.length bs.length ∧ Row w g (bcells bs) 5 ∧ B ≤ g
theorem Dt.fr {S : Nat → Prop} {w w' : World} {B : Nat} {d : Value} {bs : List (BitVec 8)} (H : Dt w B d bs) (hf : Fr S w w') (hS : ∀ x, S x → x < B) : Dt w' B d bs := by
  rcases H with H | ⟨g, h1, h2, h3⟩
  · exact .inl H
  · exact .inr ⟨g, h1, hf.row h2 (fun e => by have := hS g e; omega), h3⟩
/-- The scan with what is left and what was read; B: from where on its bytes lie. -/
structure Sx (B : Nat) (w : World) (p : Nat) (F : PF) (l : List (BitVec 8)) : Prop where
  hp : p < B
  sc : ∃ v d, Sc w p v F.k F.s F.n F.c F.h d ∧ Lf w p v l ∧ Dt w B d F.bs
/-- What a reader answers. -/
def RdAns (B : Nat) (w : World) (p : Nat) (r : Int × PF × List (BitVec 8)) (e : Ending) (w' : World) : Prop := e = .returned (.int .i64 r.1) ∧ Sx B w' p r.2.1 r.2.2 ∧ Fr (fun x => x = p) w w'
def oneD : List (BitVec 8) → Int × BitVec 8 × List (BitVec 8)
  | [] => (174, 0#8, [])
  | x :: l => (0, x, l)
theorem one_any {w : World} {p : Nat} {v : Value} {k s n c h : Int} {d : Value} {l : List (BitVec 8)} (H : Sc w p v k s n c h d) (hl : Lf w p v l) :
    Calls Try.prog 54 #[.pointer (some ⟨p, 0, none⟩)] w fun e w' => e = .returned (.tuple #[.int .u8 (ub (oneD l).2.1), .int .i64 (oneD l).1]) ∧ ∃ v', Sc w' p v' k s n c h d ∧ Lf w' p v' (oneD l).2.2 ∧ Fr (fun x => x = p) w w' := by
  cases l with
  | nil =>
    refine (one_no H hl).mono ?_
    rintro e w' ⟨rfl, rfl⟩
    exact ⟨rfl, v, H, hl, Fr.refl _ _⟩
  | cons x l => exact one_yes H hl
def strD (F : PF) (l : List (BitVec 8)) : Int × PF × List (BitVec 8) := ((numD 9 0 0 l).1, { F with s := ((numD 9 0 0 l).2.1 : Int) }, (numD 9 0 0 l).2.2)
def nD (F : PF) (l : List (BitVec 8)) : Int × PF × List (BitVec 8) := ((numD 9 0 0 l).1, { F with n := ((numD 9 0 0 l).2.1 : Int) }, (numD 9 0 0 l).2.2)
def clsD (F : PF) (l : List (BitVec 8)) : Int × PF × List (BitVec 8) := ((oneD l).1, { F with c := ub (oneD l).2.1 }, (oneD l).2.2)
def shrD (F : PF) (l : List (BitVec 8)) : Int × PF × List (BitVec 8) := ((oneD l).1, { F with h := ub (oneD l).2.1 }, (oneD l).2.2)
theorem fr_two {S : Nat → Prop} {w w1 w2 : World} (h1 : Fr S w w1) (h2 : Fr S w1 w2) : Fr S w w2 := h1.trans h2 (fun _ hx => .inl hx)
set_option maxHeartbeats 1000000 in
theorem stream_any {B : Nat} {w : World} {p : Nat} {F : PF} {l : List (BitVec 8)} (H : Sx B w p F l) : Calls Try.prog 32 #[.pointer (some ⟨p, 0, none⟩)] w (RdAns B w p (strD F l)) := by
  obtain ⟨hp, v, d, hs, hl, hd⟩ := H
  have HN := hid (number_any hs hl)
  have HD := hid hd
  have HP := hid hp
  clear hs hl hd hp
  unfold strD
  generalize numD 9 0 0 l = r at *
  go_enter Try.func32, Try.ntmps32
  go_wp2_with (go_at_call 53; refine HN.out.mono ?_; rintro e w5 ⟨rfl, v5, hs5, hl5, hf5⟩; have HS5 := hid hs5; have HL5 := hid hl5; have HF5 := hid hf5; have c12 := hs5.row.cell 12 _ rfl; have f12 := hs5.row.frozen 12; clear hs5 hl5 hf5)
  go_ret
  exact ⟨rfl, ⟨HP.out, _, _, HS5.out.set 12 _ rfl, HL5.out.fr (fr_set w5 p 12 _), (HD.out.fr HF5.out (fun x hx => by have := HP.out; omega)).fr (fr_set w5 p 12 _) (fun x hx => by have := HP.out; omega)⟩, fr_two HF5.out (fr_set w5 p 12 _)⟩
set_option maxHeartbeats 1000000 in
theorem n_any {B : Nat} {w : World} {p : Nat} {F : PF} {l : List (BitVec 8)} (H : Sx B w p F l) : Calls Try.prog 41 #[.pointer (some ⟨p, 0, none⟩)] w (RdAns B w p (nD F l)) := by
  obtain ⟨hp, v, d, hs, hl, hd⟩ := H
  have HN := hid (number_any hs hl)
  have HD := hid hd
  have HP := hid hp
  clear hs hl hd hp
  unfold nD
  generalize numD 9 0 0 l = r at *
  go_enter Try.func41, Try.ntmps41
  go_wp2_with (go_at_call 53; refine HN.out.mono ?_; rintro e w5 ⟨rfl, v5, hs5, hl5, hf5⟩; have HS5 := hid hs5; have HL5 := hid hl5; have HF5 := hid hf5; have c12 := hs5.row.cell 13 _ rfl; have f12 := hs5.row.frozen 13; clear hs5 hl5 hf5)
  go_ret
  exact ⟨rfl, ⟨HP.out, _, _, HS5.out.set 13 _ rfl, HL5.out.fr (fr_set w5 p 13 _), (HD.out.fr HF5.out (fun x hx => by have := HP.out; omega)).fr (fr_set w5 p 13 _) (fun x hx => by have := HP.out; omega)⟩, fr_two HF5.out (fr_set w5 p 13 _)⟩
set_option maxHeartbeats 1000000 in
theorem class_any {B : Nat} {w : World} {p : Nat} {F : PF} {l : List (BitVec 8)} (H : Sx B w p F l) : Calls Try.prog 34 #[.pointer (some ⟨p, 0, none⟩)] w (RdAns B w p (clsD F l)) := by
  obtain ⟨hp, v, d, hs, hl, hd⟩ := H
  have HN := hid (one_any hs hl)
  have HD := hid hd
  have HP := hid hp
  clear hs hl hd hp
  unfold clsD
  generalize oneD l = r at *
  have hx := ub_bd r.2.1
  go_enter Try.func34, Try.ntmps34
  go_wp2_with (go_at_call 54; refine HN.out.mono ?_; rintro e w5 ⟨rfl, v5, hs5, hl5, hf5⟩; have HS5 := hid hs5; have HL5 := hid hl5; have HF5 := hid hf5; have c12 := hs5.row.cell 14 _ rfl; have f12 := hs5.row.frozen 14; clear hs5 hl5 hf5)
  go_ret
  exact ⟨rfl, ⟨HP.out, _, _, HS5.out.set 14 _ rfl, HL5.out.fr (fr_set w5 p 14 _), (HD.out.fr HF5.out (fun x hx => by have := HP.out; omega)).fr (fr_set w5 p 14 _) (fun x hx => by have := HP.out; omega)⟩, fr_two HF5.out (fr_set w5 p 14 _)⟩
set_option maxHeartbeats 1000000 in
theorem share_any {B : Nat} {w : World} {p : Nat} {F : PF} {l : List (BitVec 8)} (H : Sx B w p F l) : Calls Try.prog 36 #[.pointer (some ⟨p, 0, none⟩)] w (RdAns B w p (shrD F l)) := by
  obtain ⟨hp, v, d, hs, hl, hd⟩ := H
  have HN := hid (one_any hs hl)
  have HD := hid hd
  have HP := hid hp
  clear hs hl hd hp
  unfold shrD
  generalize oneD l = r at *
  have hx := ub_bd r.2.1
  go_enter Try.func36, Try.ntmps36
  go_wp2_with (go_at_call 54; refine HN.out.mono ?_; rintro e w5 ⟨rfl, v5, hs5, hl5, hf5⟩; have HS5 := hid hs5; have HL5 := hid hl5; have HF5 := hid hf5; have c12 := hs5.row.cell 15 _ rfl; have f12 := hs5.row.frozen 15; clear hs5 hl5 hf5)
  go_ret
  exact ⟨rfl, ⟨HP.out, _, _, HS5.out.set 15 _ rfl, HL5.out.fr (fr_set w5 p 15 _), (HD.out.fr HF5.out (fun x hx => by have := HP.out; omega)).fr (fr_set w5 p 15 _) (fun x hx => by have := HP.out; omega)⟩, fr_two HF5.out (fr_set w5 p 15 _)⟩
/-- The kind. -/
def kindD (F : PF) (l : List (BitVec 8)) : Int × PF × List (BitVec 8) :=
  if (oneD l).1 = 0 ∧ ¬ Known (ub (oneD l).2.1) then (170, F, (oneD l).2.2) else ((oneD l).1, { F with k := ub (oneD l).2.1 }, (oneD l).2.2)
set_option maxHeartbeats 1000000 in
theorem kind_any {B : Nat} {w : World} {p : Nat} {F : PF} {l : List (BitVec 8)} (H : Sx B w p F l) : Calls Try.prog 55 #[.pointer (some ⟨p, 0, none⟩)] w (RdAns B w p (kindD F l)) := by
  obtain ⟨hp, v, d, hs, hl, hd⟩ := H
  have HN := hid (one_any hs hl)
  have HD := hid hd
  have HP := hid hp
  clear hs hl hd hp
  unfold kindD
  generalize oneD l = r at *
  have hx := ub_bd r.2.1
  have HK := hid (fun w => known_any w (ub r.2.1))
  by_cases h1 : r.1 = 0
  · have h1b : (r.1 == 0) = true := by simp [h1]
    have HR := hid h1
    by_cases h2 : Known (ub r.2.1)
    · have h3 : decide (Known (ub r.2.1)) = true := decide_eq_true h2
      rw [if_neg (fun hh => hh.2 h2)]
      rw [h3] at HK
      clear h1 h2 h3
      go_enter Try.func55, Try.ntmps55
      go_wp2_with (first | (go_at_call 54; refine HN.out.mono ?_; rintro e w5 ⟨rfl, v5, hs5, hl5, hf5⟩; have HS5 := hid hs5; have HL5 := hid hl5; have HF5 := hid hf5; have c12 := hs5.row.cell 11 _ rfl; have f12 := hs5.row.frozen 11; clear hs5 hl5 hf5) | (go_at_call 47; refine (HK.out _).mono ?_; rintro e w' ⟨rfl, rfl⟩))
      go_ret
      exact ⟨rfl, ⟨HP.out, _, _, HS5.out.set 11 _ rfl, HL5.out.fr (fr_set _ p 11 _), (HD.out.fr HF5.out (fun x hx => by have := HP.out; omega)).fr (fr_set _ p 11 _) (fun x hx => by have := HP.out; omega)⟩, fr_two HF5.out (fr_set _ p 11 _)⟩
    · have h3 : decide (Known (ub r.2.1)) = false := decide_eq_false h2
      rw [if_pos ⟨h1, h2⟩]
      rw [h3] at HK
      clear h1 h2 h3
      go_enter Try.func55, Try.ntmps55
      go_wp2_with (first | (go_at_call 54; refine HN.out.mono ?_; rintro e w5 ⟨rfl, v5, hs5, hl5, hf5⟩; have HS5 := hid hs5; have HL5 := hid hl5; have HF5 := hid hf5; clear hs5 hl5 hf5) | (go_at_call 47; refine (HK.out _).mono ?_; rintro e w' ⟨rfl, rfl⟩))
      go_ret
      exact ⟨rfl, ⟨HP.out, _, _, HS5.out, HL5.out, HD.out.fr HF5.out (fun x hx => by have := HP.out; omega)⟩, HF5.out⟩
  · have h1b : (r.1 == 0) = false := by simpa using h1
    rw [if_neg (fun hh => h1 hh.1)]
    go_enter Try.func55, Try.ntmps55
    go_wp2_with (go_at_call 54; refine HN.out.mono ?_; rintro e w5 ⟨rfl, v5, hs5, hl5, hf5⟩; have HS5 := hid hs5; have HL5 := hid hl5; have HF5 := hid hf5; have c12 := hs5.row.cell 11 _ rfl; have f12 := hs5.row.frozen 11; clear hs5 hl5 hf5)
    go_ret
    exact ⟨rfl, ⟨HP.out, _, _, HS5.out.set 11 _ rfl, HL5.out.fr (fr_set _ p 11 _), (HD.out.fr HF5.out (fun x hx => by have := HP.out; omega)).fr (fr_set _ p 11 _) (fun x hx => by have := HP.out; omega)⟩, fr_two HF5.out (fr_set _ p 11 _)⟩
end Go.Proofs.Ytkhogbnoincbeab
