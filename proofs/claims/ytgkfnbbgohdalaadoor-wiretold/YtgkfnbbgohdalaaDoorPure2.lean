import Derived.Test.YtgkfnbbgohdalaaDoorEnc0
namespace Go.Proofs.YtgkfnbbgohdalaaDoor
open Go.RowKit
set_option maxRecDepth 100000

theorem cut_mid {A X B : List (BitVec 8)} {i n : Nat} (ho : A.length = i) (hn : X.length = n) : cut (A ++ (X ++ B)) i n = X := by
  subst ho hn; unfold cut; rw [List.drop_left, List.take_left]
theorem cut_in {b A X B : List (BitVec 8)} (hb : b = A ++ (X ++ B)) {i n : Nat} (ho : A.length = i) (hn : X.length = n) : cut b i n = X := by
  subst hb; exact cut_mid ho hn
theorem byte_in {b A B : List (BitVec 8)} {x : BitVec 8} (hb : b = A ++ ([x] ++ B)) {i : Nat} (ho : A.length = i) : byte b i = x := by
  subst hb ho; simp [byte]
theorem flag_one (b : Bool) : decide (flagB b = 1#8) = b := by cases b <;> decide
theorem flag_le (b : Bool) : (flagB b).toNat ≤ 1 := by cases b <;> decide
theorem small_int {x : Int} (h0 : 0 ≤ x) (h8 : x < 8) : ((BitVec.ofInt 8 x).toNat : Int) = x := by
  rw [BitVec.toNat_ofInt]; omega
theorem be_val8 {n : Nat} (h : n < 18446744073709551616) : val (be 8 n) = n := val_be 8 n h
theorem be_val4 {n : Nat} (h : n < 4294967296) : val (be 4 n) = n := val_be 4 n h
theorem be_val2 {n : Nat} (h : n ≤ 1024) : val (be 2 n) = n := val_be 2 n (by omega)
theorem rangesN_B (l : List (Nat × Nat)) (h : ∀ r ∈ l, r.1 < 18446744073709551616 ∧ r.2 < 18446744073709551616) : rangesN l.length (rangesB l) = l := by
  induction l with
  | nil => rfl
  | cons r l ih =>
    have e : rangesB (r :: l) = be 8 r.1 ++ (be 8 r.2 ++ rangesB l) := by simp [rangesB]
    have h1 := h r (List.mem_cons_self)
    rw [List.length_cons, rangesN, e]
    rw [show (be 8 r.1 ++ (be 8 r.2 ++ rangesB l)).take 8 = be 8 r.1 from List.take_left' (be_len 8 _), show ((be 8 r.1 ++ (be 8 r.2 ++ rangesB l)).drop 8).take 8 = be 8 r.2 by rw [List.drop_left' (be_len 8 _)]; exact List.take_left' (be_len 8 _),
      show (be 8 r.1 ++ (be 8 r.2 ++ rangesB l)).drop 16 = rangesB l by rw [← List.append_assoc]; exact List.drop_left' (by rw [List.length_append, be_len, be_len]), be_val8 h1.1, be_val8 h1.2, ih (fun r hr => h r (List.mem_cons_of_mem _ hr))]

/-- The numbers of a frame are within their types. -/
structure NumsOk (f : Fr) : Prop where
  num : f.num < 18446744073709551616
  off : f.off < 18446744073709551616
  edge : f.edge < 18446744073709551616
  rlt : ∀ r ∈ f.ranges, r.1 < 18446744073709551616 ∧ r.2 < 18446744073709551616
  token : f.token < 4294967296
  nonce : f.nonce < 4294967296

/-- What is written of a fit frame is read as that frame. -/
structure BackOf (f : Fr) (b : List (BitVec 8)) : Prop where
  read : rdf b = f
  size : b.length = sizeB b
  flags : flaggedB b
  kinds : knownB b

theorem back_1 {path : Int} {num : Nat} {off : Nat} {data : List (BitVec 8)} {b S : List (BitVec 8)} (p0 : 0 ≤ path) (p8 : path < 8) (h2 : data.length ≤ 1024) (qn : num < 18446744073709551616) (qo : off < 18446744073709551616) (hS : S.length = 4) (hb0 : b = [1#8, BitVec.ofInt 8 path] ++ (be 8 num ++ (be 8 off ++ (be 2 data.length ++ (data ++ S))))) : BackOf ⟨1, path, num, off, 0, data, [], 0, 0, [], false, 0⟩ b := by
  obtain ⟨pb, hpb⟩ : ∃ pb, pb = BitVec.ofInt 8 path := ⟨_, rfl⟩
  have hpn : (pb.toNat : Int) = path := by rw [hpb]; exact small_int p0 p8
  have hb : b = [1#8, pb] ++ (be 8 num ++ (be 8 off ++ (be 2 data.length ++ (data ++ S)))) := by rw [hb0, hpb]
  clear hb0 hpb
  have hl : b.length = 24 + data.length := by rw [hb]; simp only [List.length_append, List.length_cons, List.length_nil, be_len, hS] <;> omega
  have y0 : byte b 0 = 1#8 := by rw [hb]; rfl
  have y1 : byte b 1 = pb := by rw [hb]; rfl
  have x2 : cut b 2 8 = be 8 num := cut_in (A := [1#8, pb]) (B := (be 8 off ++ (be 2 data.length ++ (data ++ S)))) (hb.trans (by first | rfl | simp only [List.append_assoc])) rfl (be_len _ _)
  have x10 : cut b 10 8 = be 8 off := cut_in (A := ([1#8, pb] ++ be 8 num)) (B := (be 2 data.length ++ (data ++ S))) (hb.trans (by first | rfl | simp only [List.append_assoc])) (by first | rfl | simp only [List.length_append, List.length_cons, List.length_nil, be_len]) (be_len _ _)
  have x18 : cut b 18 2 = be 2 data.length := cut_in (A := (([1#8, pb] ++ be 8 num) ++ be 8 off)) (B := (data ++ S)) (hb.trans (by first | rfl | simp only [List.append_assoc])) (by first | rfl | simp only [List.length_append, List.length_cons, List.length_nil, be_len]) (be_len _ _)
  have x20 : cut b 20 (b.length - 24) = data := cut_in (A := ((([1#8, pb] ++ be 8 num) ++ be 8 off) ++ be 2 data.length)) (B := S) (hb.trans (by first | rfl | simp only [List.append_assoc])) (by first | rfl | simp only [List.length_append, List.length_cons, List.length_nil, be_len]) (by rw [hl]; omega)
  refine ⟨?_, ?_, ?_, by unfold knownB; rw [y0]; decide⟩
  · simp [rdf, y0, y1, Fr.zero, x2, x10, x20, be_val8 qn, be_val8 qo, hpn]
  · rw [show sizeB b = 24 + val (cut b 18 2) by rw [sizeB, if_pos y0, if_neg (by rw [hl]; omega)], x18, be_val2 h2, hl]
  · rw [flaggedB, if_neg (by rw [y0]; decide), if_neg (by rw [y0]; decide)]; trivial

theorem back_2 {path : Int} {num : Nat} {off : Nat} {b S : List (BitVec 8)} (p0 : 0 ≤ path) (p8 : path < 8) (qn : num < 18446744073709551616) (qo : off < 18446744073709551616) (hS : S.length = 4) (hb0 : b = [2#8, BitVec.ofInt 8 path] ++ (be 8 num ++ (be 8 off ++ S))) : BackOf ⟨2, path, num, off, 0, [], [], 0, 0, [], false, 0⟩ b := by
  obtain ⟨pb, hpb⟩ : ∃ pb, pb = BitVec.ofInt 8 path := ⟨_, rfl⟩
  have hpn : (pb.toNat : Int) = path := by rw [hpb]; exact small_int p0 p8
  have hb : b = [2#8, pb] ++ (be 8 num ++ (be 8 off ++ S)) := by rw [hb0, hpb]
  clear hb0 hpb
  have hl : b.length = 22 := by rw [hb]; simp only [List.length_append, List.length_cons, List.length_nil, be_len, hS] <;> omega
  have y0 : byte b 0 = 2#8 := by rw [hb]; rfl
  have y1 : byte b 1 = pb := by rw [hb]; rfl
  have x2 : cut b 2 8 = be 8 num := cut_in (A := [2#8, pb]) (B := (be 8 off ++ S)) (hb.trans (by first | rfl | simp only [List.append_assoc])) rfl (be_len _ _)
  have x10 : cut b 10 8 = be 8 off := cut_in (A := ([2#8, pb] ++ be 8 num)) (B := S) (hb.trans (by first | rfl | simp only [List.append_assoc])) (by first | rfl | simp only [List.length_append, List.length_cons, List.length_nil, be_len]) (be_len _ _)
  refine ⟨?_, ?_, ?_, by unfold knownB; rw [y0]; decide⟩
  · simp [rdf, y0, y1, Fr.zero, x2, x10, be_val8 qn, be_val8 qo, hpn]
  · rw [hl]; simp [sizeB, y0]
  · rw [flaggedB, if_neg (by rw [y0]; decide), if_neg (by rw [y0]; decide)]; trivial

theorem back_3 {path : Int} {num : Nat} {b S : List (BitVec 8)} (p0 : 0 ≤ path) (p8 : path < 8) (qn : num < 18446744073709551616) (hS : S.length = 4) (hb0 : b = [3#8, BitVec.ofInt 8 path] ++ (be 8 num ++ S)) : BackOf ⟨3, path, num, 0, 0, [], [], 0, 0, [], false, 0⟩ b := by
  obtain ⟨pb, hpb⟩ : ∃ pb, pb = BitVec.ofInt 8 path := ⟨_, rfl⟩
  have hpn : (pb.toNat : Int) = path := by rw [hpb]; exact small_int p0 p8
  have hb : b = [3#8, pb] ++ (be 8 num ++ S) := by rw [hb0, hpb]
  clear hb0 hpb
  have hl : b.length = 14 := by rw [hb]; simp only [List.length_append, List.length_cons, List.length_nil, be_len, hS] <;> omega
  have y0 : byte b 0 = 3#8 := by rw [hb]; rfl
  have y1 : byte b 1 = pb := by rw [hb]; rfl
  have x2 : cut b 2 8 = be 8 num := cut_in (A := [3#8, pb]) (B := S) (hb.trans (by first | rfl | simp only [List.append_assoc])) rfl (be_len _ _)
  refine ⟨?_, ?_, ?_, by unfold knownB; rw [y0]; decide⟩
  · simp [rdf, y0, y1, Fr.zero, x2, be_val8 qn, hpn]
  · rw [hl]; simp [sizeB, y0]
  · rw [flaggedB, if_neg (by rw [y0]; decide), if_neg (by rw [y0]; decide)]; trivial

theorem back_4 {path : Int} {ranges : List (Nat × Nat)} {b S : List (BitVec 8)} (p0 : 0 ≤ path) (p8 : path < 8) (h8 : ranges.length ≤ 8) (qr : ∀ r ∈ ranges, r.1 < 18446744073709551616 ∧ r.2 < 18446744073709551616) (hS : S.length = 4) (hb0 : b = [4#8, BitVec.ofInt 8 path] ++ ([BitVec.ofNat 8 ranges.length] ++ (rangesB ranges ++ S))) : BackOf ⟨4, path, 0, 0, 0, [], ranges, 0, 0, [], false, 0⟩ b := by
  obtain ⟨pb, hpb⟩ : ∃ pb, pb = BitVec.ofInt 8 path := ⟨_, rfl⟩
  have hpn : (pb.toNat : Int) = path := by rw [hpb]; exact small_int p0 p8
  have hb : b = [4#8, pb] ++ ([BitVec.ofNat 8 ranges.length] ++ (rangesB ranges ++ S)) := by rw [hb0, hpb]
  clear hb0 hpb
  have hl : b.length = 7 + 16 * ranges.length := by rw [hb]; simp only [List.length_append, List.length_cons, List.length_nil, rangesB_len, hS] <;> omega
  have y0 : byte b 0 = 4#8 := by rw [hb]; rfl
  have y1 : byte b 1 = pb := by rw [hb]; rfl
  have y2 : byte b 2 = BitVec.ofNat 8 ranges.length := byte_in (A := [4#8, pb]) (B := (rangesB ranges ++ S)) (hb.trans (by first | rfl | simp only [List.append_assoc])) rfl
  have x3 : cut b 3 (b.length - 7) = rangesB ranges := cut_in (A := ([4#8, pb] ++ [BitVec.ofNat 8 ranges.length])) (B := S) (hb.trans (by first | rfl | simp only [List.append_assoc])) (by first | rfl | simp only [List.length_append, List.length_cons, List.length_nil, be_len]) (by rw [hl, rangesB_len]; omega)
  refine ⟨?_, ?_, ?_, by unfold knownB; rw [y0]; decide⟩
  · have e1 : (b.length - 7) / 16 = ranges.length := by rw [hl]; omega
    simp [rdf, y0, y1, Fr.zero, x3, e1, rangesN_B ranges qr, hpn]
  · rw [show sizeB b = 7 + 16 * (byte b 2).toNat by simp [sizeB, y0], y2, hl, BitVec.toNat_ofNat]; omega
  · rw [flaggedB, if_neg (by rw [y0]; decide), if_neg (by rw [y0]; decide)]; trivial

theorem back_5 {path : Int} {off : Nat} {edge : Nat} {b S : List (BitVec 8)} (p0 : 0 ≤ path) (p8 : path < 8) (qo : off < 18446744073709551616) (qe : edge < 18446744073709551616) (hS : S.length = 4) (hb0 : b = [5#8, BitVec.ofInt 8 path] ++ (be 8 off ++ (be 8 edge ++ S))) : BackOf ⟨5, path, 0, off, edge, [], [], 0, 0, [], false, 0⟩ b := by
  obtain ⟨pb, hpb⟩ : ∃ pb, pb = BitVec.ofInt 8 path := ⟨_, rfl⟩
  have hpn : (pb.toNat : Int) = path := by rw [hpb]; exact small_int p0 p8
  have hb : b = [5#8, pb] ++ (be 8 off ++ (be 8 edge ++ S)) := by rw [hb0, hpb]
  clear hb0 hpb
  have hl : b.length = 22 := by rw [hb]; simp only [List.length_append, List.length_cons, List.length_nil, be_len, hS] <;> omega
  have y0 : byte b 0 = 5#8 := by rw [hb]; rfl
  have y1 : byte b 1 = pb := by rw [hb]; rfl
  have x2 : cut b 2 8 = be 8 off := cut_in (A := [5#8, pb]) (B := (be 8 edge ++ S)) (hb.trans (by first | rfl | simp only [List.append_assoc])) rfl (be_len _ _)
  have x10 : cut b 10 8 = be 8 edge := cut_in (A := ([5#8, pb] ++ be 8 off)) (B := S) (hb.trans (by first | rfl | simp only [List.append_assoc])) (by first | rfl | simp only [List.length_append, List.length_cons, List.length_nil, be_len]) (be_len _ _)
  refine ⟨?_, ?_, ?_, by unfold knownB; rw [y0]; decide⟩
  · simp [rdf, y0, y1, Fr.zero, x2, x10, be_val8 qo, be_val8 qe, hpn]
  · rw [hl]; simp [sizeB, y0]
  · rw [flaggedB, if_neg (by rw [y0]; decide), if_neg (by rw [y0]; decide)]; trivial

theorem back_6 {path : Int} {token : Nat} {b S : List (BitVec 8)} (p0 : 0 ≤ path) (p8 : path < 8) (qt : token < 4294967296) (hS : S.length = 4) (hb0 : b = [6#8, BitVec.ofInt 8 path] ++ (be 4 token ++ S)) : BackOf ⟨6, path, 0, 0, 0, [], [], token, 0, [], false, 0⟩ b := by
  obtain ⟨pb, hpb⟩ : ∃ pb, pb = BitVec.ofInt 8 path := ⟨_, rfl⟩
  have hpn : (pb.toNat : Int) = path := by rw [hpb]; exact small_int p0 p8
  have hb : b = [6#8, pb] ++ (be 4 token ++ S) := by rw [hb0, hpb]
  clear hb0 hpb
  have hl : b.length = 10 := by rw [hb]; simp only [List.length_append, List.length_cons, List.length_nil, be_len, hS] <;> omega
  have y0 : byte b 0 = 6#8 := by rw [hb]; rfl
  have y1 : byte b 1 = pb := by rw [hb]; rfl
  have x2 : cut b 2 4 = be 4 token := cut_in (A := [6#8, pb]) (B := S) (hb.trans (by first | rfl | simp only [List.append_assoc])) rfl (be_len _ _)
  refine ⟨?_, ?_, ?_, by unfold knownB; rw [y0]; decide⟩
  · simp [rdf, y0, y1, Fr.zero, x2, be_val4 qt, hpn]
  · rw [hl]; simp [sizeB, y0]
  · rw [flaggedB, if_neg (by rw [y0]; decide), if_neg (by rw [y0]; decide)]; trivial

theorem back_7 {path : Int} {token : Nat} {nonce : Nat} {backup : Bool} {b S : List (BitVec 8)} (p0 : 0 ≤ path) (p8 : path < 8) (qt : token < 4294967296) (qx : nonce < 4294967296) (hS : S.length = 4) (hb0 : b = [7#8, BitVec.ofInt 8 path] ++ (be 4 token ++ (be 4 nonce ++ ([flagB backup] ++ S)))) : BackOf ⟨7, path, 0, 0, 0, [], [], token, nonce, [], backup, 0⟩ b := by
  obtain ⟨pb, hpb⟩ : ∃ pb, pb = BitVec.ofInt 8 path := ⟨_, rfl⟩
  have hpn : (pb.toNat : Int) = path := by rw [hpb]; exact small_int p0 p8
  have hb : b = [7#8, pb] ++ (be 4 token ++ (be 4 nonce ++ ([flagB backup] ++ S))) := by rw [hb0, hpb]
  clear hb0 hpb
  have hl : b.length = 15 := by rw [hb]; simp only [List.length_append, List.length_cons, List.length_nil, be_len, hS] <;> omega
  have y0 : byte b 0 = 7#8 := by rw [hb]; rfl
  have y1 : byte b 1 = pb := by rw [hb]; rfl
  have x2 : cut b 2 4 = be 4 token := cut_in (A := [7#8, pb]) (B := (be 4 nonce ++ ([flagB backup] ++ S))) (hb.trans (by first | rfl | simp only [List.append_assoc])) rfl (be_len _ _)
  have x6 : cut b 6 4 = be 4 nonce := cut_in (A := ([7#8, pb] ++ be 4 token)) (B := ([flagB backup] ++ S)) (hb.trans (by first | rfl | simp only [List.append_assoc])) (by first | rfl | simp only [List.length_append, List.length_cons, List.length_nil, be_len]) (be_len _ _)
  have y10 : byte b 10 = flagB backup := byte_in (A := (([7#8, pb] ++ be 4 token) ++ be 4 nonce)) (B := S) (hb.trans (by first | rfl | simp only [List.append_assoc])) (by first | rfl | simp only [List.length_append, List.length_cons, List.length_nil, be_len])
  refine ⟨?_, ?_, ?_, by unfold knownB; rw [y0]; decide⟩
  · simp [rdf, y0, y1, Fr.zero, x2, x6, y10, be_val4 qt, be_val4 qx, flag_one, hpn]
  · rw [hl]; simp [sizeB, y0]
  · rw [flaggedB, if_pos y0, y10]; exact flag_le _

theorem back_8 {path : Int} {nonce : Nat} {mac : List (BitVec 8)} {b S : List (BitVec 8)} (p0 : 0 ≤ path) (p8 : path < 8) (hm : mac.length = 8) (qx : nonce < 4294967296) (hS : S.length = 4) (hb0 : b = [8#8, BitVec.ofInt 8 path] ++ (be 4 nonce ++ (mac ++ S))) : BackOf ⟨8, path, 0, 0, 0, [], [], 0, nonce, mac, false, 0⟩ b := by
  obtain ⟨pb, hpb⟩ : ∃ pb, pb = BitVec.ofInt 8 path := ⟨_, rfl⟩
  have hpn : (pb.toNat : Int) = path := by rw [hpb]; exact small_int p0 p8
  have hb : b = [8#8, pb] ++ (be 4 nonce ++ (mac ++ S)) := by rw [hb0, hpb]
  clear hb0 hpb
  have hl : b.length = 18 := by rw [hb]; simp only [List.length_append, List.length_cons, List.length_nil, be_len, hS, hm] <;> omega
  have y0 : byte b 0 = 8#8 := by rw [hb]; rfl
  have y1 : byte b 1 = pb := by rw [hb]; rfl
  have x2 : cut b 2 4 = be 4 nonce := cut_in (A := [8#8, pb]) (B := (mac ++ S)) (hb.trans (by first | rfl | simp only [List.append_assoc])) rfl (be_len _ _)
  have x6 : cut b 6 8 = mac := cut_in (A := ([8#8, pb] ++ be 4 nonce)) (B := S) (hb.trans (by first | rfl | simp only [List.append_assoc])) (by first | rfl | simp only [List.length_append, List.length_cons, List.length_nil, be_len]) hm
  refine ⟨?_, ?_, ?_, by unfold knownB; rw [y0]; decide⟩
  · simp [rdf, y0, y1, Fr.zero, x2, x6, be_val4 qx, hpn]
  · rw [hl]; simp [sizeB, y0]
  · rw [flaggedB, if_neg (by rw [y0]; decide), if_neg (by rw [y0]; decide)]; trivial

theorem back_9 {path : Int} {mac : List (BitVec 8)} {b S : List (BitVec 8)} (p0 : 0 ≤ path) (p8 : path < 8) (hm : mac.length = 20) (hS : S.length = 4) (hb0 : b = [9#8, BitVec.ofInt 8 path] ++ (mac ++ S)) : BackOf ⟨9, path, 0, 0, 0, [], [], 0, 0, mac, false, 0⟩ b := by
  obtain ⟨pb, hpb⟩ : ∃ pb, pb = BitVec.ofInt 8 path := ⟨_, rfl⟩
  have hpn : (pb.toNat : Int) = path := by rw [hpb]; exact small_int p0 p8
  have hb : b = [9#8, pb] ++ (mac ++ S) := by rw [hb0, hpb]
  clear hb0 hpb
  have hl : b.length = 26 := by rw [hb]; simp only [List.length_append, List.length_cons, List.length_nil, hS, hm] <;> omega
  have y0 : byte b 0 = 9#8 := by rw [hb]; rfl
  have y1 : byte b 1 = pb := by rw [hb]; rfl
  have x2 : cut b 2 20 = mac := cut_in (A := [9#8, pb]) (B := S) (hb.trans (by first | rfl | simp only [List.append_assoc])) rfl hm
  refine ⟨?_, ?_, ?_, by unfold knownB; rw [y0]; decide⟩
  · simp [rdf, y0, y1, Fr.zero, x2, hpn]
  · rw [hl]; simp [sizeB, y0]
  · rw [flaggedB, if_neg (by rw [y0]; decide), if_neg (by rw [y0]; decide)]; trivial

theorem back_10 {path : Int} {backup : Bool} {b S : List (BitVec 8)} (p0 : 0 ≤ path) (p8 : path < 8) (hS : S.length = 4) (hb0 : b = [10#8, BitVec.ofInt 8 path] ++ ([flagB backup] ++ S)) : BackOf ⟨10, path, 0, 0, 0, [], [], 0, 0, [], backup, 0⟩ b := by
  obtain ⟨pb, hpb⟩ : ∃ pb, pb = BitVec.ofInt 8 path := ⟨_, rfl⟩
  have hpn : (pb.toNat : Int) = path := by rw [hpb]; exact small_int p0 p8
  have hb : b = [10#8, pb] ++ ([flagB backup] ++ S) := by rw [hb0, hpb]
  clear hb0 hpb
  have hl : b.length = 7 := by rw [hb]; simp only [List.length_append, List.length_cons, List.length_nil, hS] <;> omega
  have y0 : byte b 0 = 10#8 := by rw [hb]; rfl
  have y1 : byte b 1 = pb := by rw [hb]; rfl
  have y2 : byte b 2 = flagB backup := byte_in (A := [10#8, pb]) (B := S) (hb.trans (by first | rfl | simp only [List.append_assoc])) rfl
  refine ⟨?_, ?_, ?_, by unfold knownB; rw [y0]; decide⟩
  · simp [rdf, y0, y1, Fr.zero, y2, flag_one, hpn]
  · rw [hl]; simp [sizeB, y0]
  · rw [flaggedB, if_neg (by rw [y0]; decide), if_pos y0, y2]; exact flag_le _

theorem back_11 {path : Int} {which : Int} {b S : List (BitVec 8)} (p0 : 0 ≤ path) (p8 : path < 8) (w0 : 0 ≤ which) (w8 : which < 8) (hS : S.length = 4) (hb0 : b = [11#8, BitVec.ofInt 8 path] ++ ([BitVec.ofInt 8 which] ++ S)) : BackOf ⟨11, path, 0, 0, 0, [], [], 0, 0, [], false, which⟩ b := by
  obtain ⟨pb, hpb⟩ : ∃ pb, pb = BitVec.ofInt 8 path := ⟨_, rfl⟩
  have hpn : (pb.toNat : Int) = path := by rw [hpb]; exact small_int p0 p8
  obtain ⟨wb, hwb⟩ : ∃ wb, wb = BitVec.ofInt 8 which := ⟨_, rfl⟩
  have hwn : (wb.toNat : Int) = which := by rw [hwb]; exact small_int w0 w8
  have hb : b = [11#8, pb] ++ ([wb] ++ S) := by rw [hb0, hpb, hwb]
  clear hb0 hpb
  have hl : b.length = 7 := by rw [hb]; simp only [List.length_append, List.length_cons, List.length_nil, hS] <;> omega
  have y0 : byte b 0 = 11#8 := by rw [hb]; rfl
  have y1 : byte b 1 = pb := by rw [hb]; rfl
  have y2 : byte b 2 = wb := byte_in (A := [11#8, pb]) (B := S) (hb.trans (by first | rfl | simp only [List.append_assoc])) rfl
  refine ⟨?_, ?_, ?_, by unfold knownB; rw [y0]; decide⟩
  · simp [rdf, y0, y1, Fr.zero, y2, hpn, hwn]
  · rw [hl]; simp [sizeB, y0]
  · rw [flaggedB, if_neg (by rw [y0]; decide), if_neg (by rw [y0]; decide)]; trivial

theorem enc_eq (f : Fr) : ∃ S : List (BitVec 8), S.length = 4 ∧ enc f = BitVec.ofInt 8 f.kind :: BitVec.ofInt 8 f.path :: (fieldsB f ++ S) :=
  ⟨be 4 (crc (bodyB f)).toNat, be_len 4 _, rfl⟩
theorem back_any {f : Fr} (hf : fit f) (hn : NumsOk f) : BackOf f (enc f) := by
  obtain ⟨hk, p0, p8, hb, hs⟩ := hf
  obtain ⟨kind, path, num, off, edge, data, ranges, token, nonce, mac, backup, which⟩ := f
  have hkk := kinds hk
  simp only at hkk p0 p8
  clear hk
  rcases hkk with rfl | rfl | rfl | rfl | rfl | rfl | rfl | rfl | rfl | rfl | rfl
  · simp [strip, blank] at hs
    simp [bounded] at hb
    obtain ⟨rfl, rfl, rfl, rfl, rfl, rfl, rfl⟩ := hs
    obtain ⟨S, hS, hE⟩ := enc_eq ⟨1, path, num, off, 0, data, [], 0, 0, [], false, 0⟩
    exact back_1 p0 p8 hb.2.1 hn.num hn.off hS (by rw [hE]; simp [fieldsB])
  · simp [strip, blank] at hs
    simp [bounded] at hb
    obtain ⟨rfl, rfl, rfl, rfl, rfl, rfl, rfl, rfl⟩ := hs
    obtain ⟨S, hS, hE⟩ := enc_eq ⟨2, path, num, off, 0, [], [], 0, 0, [], false, 0⟩
    exact back_2 p0 p8 hn.num hn.off hS (by rw [hE]; simp [fieldsB])
  · simp [strip, blank] at hs
    simp [bounded] at hb
    obtain ⟨rfl, rfl, rfl, rfl, rfl, rfl, rfl, rfl, rfl⟩ := hs
    obtain ⟨S, hS, hE⟩ := enc_eq ⟨3, path, num, 0, 0, [], [], 0, 0, [], false, 0⟩
    exact back_3 p0 p8 hn.num hS (by rw [hE]; simp [fieldsB])
  · simp [strip, blank] at hs
    simp [bounded] at hb
    obtain ⟨rfl, rfl, rfl, rfl, rfl, rfl, rfl, rfl, rfl⟩ := hs
    obtain ⟨S, hS, hE⟩ := enc_eq ⟨4, path, 0, 0, 0, [], ranges, 0, 0, [], false, 0⟩
    exact back_4 p0 p8 hb.2.1 hn.rlt hS (by rw [hE]; simp [fieldsB])
  · simp [strip, blank] at hs
    simp [bounded] at hb
    obtain ⟨rfl, rfl, rfl, rfl, rfl, rfl, rfl, rfl⟩ := hs
    obtain ⟨S, hS, hE⟩ := enc_eq ⟨5, path, 0, off, edge, [], [], 0, 0, [], false, 0⟩
    exact back_5 p0 p8 hn.off hn.edge hS (by rw [hE]; simp [fieldsB])
  · simp [strip, blank] at hs
    simp [bounded] at hb
    obtain ⟨rfl, rfl, rfl, rfl, rfl, rfl, rfl, rfl, rfl⟩ := hs
    obtain ⟨S, hS, hE⟩ := enc_eq ⟨6, path, 0, 0, 0, [], [], token, 0, [], false, 0⟩
    exact back_6 p0 p8 hn.token hS (by rw [hE]; simp [fieldsB])
  · simp [strip, blank] at hs
    simp [bounded] at hb
    obtain ⟨rfl, rfl, rfl, rfl, rfl, rfl, rfl⟩ := hs
    obtain ⟨S, hS, hE⟩ := enc_eq ⟨7, path, 0, 0, 0, [], [], token, nonce, [], backup, 0⟩
    exact back_7 p0 p8 hn.token hn.nonce hS (by rw [hE]; simp [fieldsB])
  · simp [strip, blank] at hs
    simp [bounded] at hb
    obtain ⟨rfl, rfl, rfl, rfl, rfl, rfl, rfl, rfl⟩ := hs
    obtain ⟨S, hS, hE⟩ := enc_eq ⟨8, path, 0, 0, 0, [], [], 0, nonce, mac, false, 0⟩
    exact back_8 p0 p8 hb hn.nonce hS (by rw [hE]; simp [fieldsB])
  · simp [strip, blank] at hs
    simp [bounded] at hb
    obtain ⟨rfl, rfl, rfl, rfl, rfl, rfl, rfl, rfl, rfl⟩ := hs
    obtain ⟨S, hS, hE⟩ := enc_eq ⟨9, path, 0, 0, 0, [], [], 0, 0, mac, false, 0⟩
    exact back_9 p0 p8 hb hS (by rw [hE]; simp [fieldsB])
  · simp [strip, blank] at hs
    simp [bounded] at hb
    obtain ⟨rfl, rfl, rfl, rfl, rfl, rfl, rfl, rfl, rfl⟩ := hs
    obtain ⟨S, hS, hE⟩ := enc_eq ⟨10, path, 0, 0, 0, [], [], 0, 0, [], backup, 0⟩
    exact back_10 p0 p8  hS (by rw [hE]; simp [fieldsB])
  · simp [strip, blank] at hs
    simp [bounded] at hb
    obtain ⟨rfl, rfl, rfl, rfl, rfl, rfl, rfl, rfl, rfl⟩ := hs
    obtain ⟨S, hS, hE⟩ := enc_eq ⟨11, path, 0, 0, 0, [], [], 0, 0, [], false, which⟩
    exact back_11 p0 p8 hb.1 hb.2 hS (by rw [hE]; simp [fieldsB])
theorem enc_len {f : Fr} (hf : fit f) : (enc f).length = sizeF f := by
  have := fields_len hf
  unfold enc bodyB
  rw [List.length_append, be_len, List.length_cons, List.length_cons]; omega
theorem sizeF_bd {f : Fr} (hf : fit f) : 7 ≤ sizeF f ∧ sizeF f ≤ 1048 := by
  have hb := hf.2.2.2.1
  rcases kinds hf.1 with e | e | e | e | e | e | e | e | e | e | e
  · have h2 := fit_ranges hf (by rw [e]; decide)
    simp [bounded, e] at hb
    simp [sizeF, sizeK, sizesL, e, h2]; omega
  · have h1 := fit_data hf (by rw [e]; decide)
    have h2 := fit_ranges hf (by rw [e]; decide)
    simp [sizeF, sizeK, sizesL, e, h1, h2]
  · have h1 := fit_data hf (by rw [e]; decide)
    have h2 := fit_ranges hf (by rw [e]; decide)
    simp [sizeF, sizeK, sizesL, e, h1, h2]
  · have h1 := fit_data hf (by rw [e]; decide)
    simp [bounded, e] at hb
    simp [sizeF, sizeK, sizesL, e, h1]; omega
  all_goals
    have h1 := fit_data hf (by rw [e]; decide)
    have h2 := fit_ranges hf (by rw [e]; decide)
    simp [sizeF, sizeK, sizesL, e, h1, h2]
/-- What is written of a fit frame is taken, and read as that frame. -/
theorem decE_enc {f : Fr} (hf : fit f) (hn : NumsOk f) : decE (enc f) = 0 := by
  have hB := back_any hf hn
  have hl := enc_len hf
  have hz := sizeF_bd hf
  refine decE_of (by omega) (by omega) ?_ hB.kinds hB.size hB.flags (by rw [hB.read]; exact hf)
  have e4 : (enc f).length - 4 = (bodyB f).length := by unfold enc; rw [List.length_append, be_len]; omega
  unfold summedB
  rw [e4]
  unfold enc
  rw [List.drop_left, List.take_left]
  exact be_val4 (crc (bodyB f)).isLt

end Go.Proofs.YtgkfnbbgohdalaaDoor
