import Derived.Test.YtfhjiggaacgncaaDoorJp3
import Derived.Test.YtfhjiggaacgncaaDoorJs0
namespace Go.Proofs.YtfhjiggaacgncaaDoor
open Go.RowKit Go.Maps Go.Sort
set_option maxRecDepth 100000

/-- A disk of n bytes and its log with the records P, of which the first s are safe; M: its memory. -/
def St (w : World) (M : Nat → Prop) (p q n : Nat) (P : List (BitVec 8 × List (BitVec 8))) (s : Nat) : Prop :=
  ∃ D G, JL w q D G ∧ G.p = p ∧ Row2 P s n D ∧ G.pr = P ∧ G.end_ = (enc 0 P).length ∧ G.size = n ∧ G.born = D.lives ∧ ∀ x, JMem q D G x → M x
/-- A disk that has crashed, of whose records the first k are left; its log is dead. -/
def Dead (w : World) (M : Nat → Prop) (p q n : Nat) (P : List (BitVec 8 × List (BitVec 8))) (k : Nat) : Prop :=
  ∃ D G, JL w q D G ∧ G.p = p ∧ Left P k n D.N ∧ D.S = D.N ∧ D.W = [] ∧ D.N.length = n ∧ G.end_ ≤ n ∧ G.size = n ∧ D.lives ≠ G.born ∧ ∀ x, JMem q D G x → M x
/-- What a call turns. -/
structure Tn (w w' : World) (M M' : Nat → Prop) : Prop where
  fr : Fr M w w'
  new : ∀ x, M' x → M x ∨ w.heap.size ≤ x
theorem Tn.below {w w' : World} {M : Nat → Prop} (hb : Below w.heap.size w w') : Tn w w' M M := ⟨Fr.of_below hb (Nat.le_refl _), fun _ e => .inl e⟩
theorem Tn.trans {w w1 w2 : World} {M M1 M2 : Nat → Prop} (h : Tn w w1 M M1) (k : Tn w1 w2 M1 M2) : Tn w w2 M M2 :=
  ⟨h.fr.trans k.fr h.new, fun x hx => by
    rcases k.new x hx with e | e
    · exact h.new x e
    · exact .inr (Nat.le_trans h.fr.size e)⟩
section
variable {w w' : World} {M : Nat → Prop} {p q n s k : Nat} {P : List (BitVec 8 × List (BitVec 8))}
theorem St.fr {X : Nat → Prop} (h : St w M p q n P s) (hf : Fr X w w') (hX : ∀ x, M x → ¬ X x) : St w' M p q n P s := by
  obtain ⟨D, G, hj, h1, h2, h3, h4, h5, h6, h7⟩ := h
  exact ⟨D, G, hj.fr hf (fun x hx => hX x (h7 x hx)), h1, h2, h3, h4, h5, h6, h7⟩
theorem St.kept (h : St w M p q n P s) (hb : Below w.heap.size w w') : St w' M p q n P s := h.fr (X := fun _ => False) (Fr.of_below hb (Nat.le_refl _)) (fun _ _ e => e)
theorem Dead.kept (h : Dead w M p q n P k) (hb : Below w.heap.size w w') : Dead w' M p q n P k := by
  obtain ⟨D, G, hj, h1⟩ := h
  exact ⟨D, G, hj.kept hb, h1⟩
theorem rs_of {G : Lg} (h : G.pr = P) : G.R.length = P.length := by rw [← h]; simp [Lg.pr]
theorem p_len (P : List (BitVec 8 × List (BitVec 8))) : P.length ≤ (enc 0 P).length := by
  rw [enc_len]
  induction P with
  | nil => exact Nat.le_refl _
  | cons x r ih => simp; omega
theorem st_len (h : St w M p q n P s) : Calls Tryd.prog 15 #[pt q 0] w fun e w' => e = .returned (.int .u64 (P.length : Nat)) ∧ w' = w := by
  obtain ⟨D, G, hj, h1, h2, h3, _⟩ := h
  have := len_any hj.lg
  rw [rs_of h3] at this
  exact this
theorem st_records (h : St w M p q n P s) (hn : n ≤ 16777216) : Calls Tryd.prog 17 #[pt q 0] w fun e w' => ∃ v, e = .returned v ∧ RecV w' w.heap.size v P ∧ Below w.heap.size w w' := by
  obtain ⟨D, G, hj, h1, h2, h3, _⟩ := h
  have hl := p_len P
  have hfit := h2.fit
  have := records_any hj.lg (by rw [rs_of h3]; omega) (fun x hx => (h2.fine (x.k, x.b) (by rw [← h3]; exact List.mem_map.2 ⟨x, hx, rfl⟩)).2)
  rw [show (G.R.map fun x => (x.k, x.b)) = P from h3] at this
  exact this
theorem st_pending (h : St w M p q n P s) (hs : s = P.length) : Calls Tryd.prog 11 #[pt p 0] w fun e w' => e = .returned (.int .i64 0) ∧ w' = w := by
  obtain ⟨D, G, hj, h1, h2, _⟩ := h
  have := pending_any hj.dk
  rw [h1, h2.wl, hs, Nat.sub_self] at this
  exact this
theorem st_room (h : St w M p q n P s) (hn : n ≤ 16777216) : Calls Tryd.prog 18 #[pt q 0] w fun e w' => e = .returned (.int .i64 (min ((n : Int) - (enc 0 P).length - 18) 65536)) ∧ Below w.heap.size w w' := by
  obtain ⟨D, G, hj, h1, h2, h3, h4, h5, _⟩ := h
  have := room_any hj.lg (by omega) (by rw [h4, h5]; exact h2.fit)
  unfold Lg.room at this
  rw [h4, h5] at this
  exact this
/-- May a record be added? -/
def mayE (n : Nat) (P : List (BitVec 8 × List (BitVec 8))) (k : BitVec 8) (m : Nat) : Int := if k = 0#8 then 212 else if 65536 < m then 213 else if min ((n : Int) - (enc 0 P).length - 18) 65536 < m then 214 else 0
theorem st_append_no (h : St w M p q n P s) (hn : n ≤ 16777216) {k : BitVec 8} {a : Option Addr} {m cp : Nat} (hE : ¬ mayE n P k m = 0) :
    Calls Tryd.prog 19 #[pt q 0, .int .u8 (ub k), .slice a m cp] w fun e w' => e = .returned (.tuple #[.int .u64 0, .int .i64 (mayE n P k m)]) ∧ Below w.heap.size w w' := by
  obtain ⟨D, G, hj, h1, h2, h3, h4, h5, h6, _⟩ := h
  refine append_no hj (by omega) (by rw [h4, h5]; exact h2.fit) ?_ hE
  unfold Lg.takesE mayE Lg.room
  rw [h6, if_neg (fun e => e rfl), h4, h5]
theorem st_append_ok (h : St w M p q n P s) (h1n : 1 ≤ n) (hn : n ≤ 16777216) {k : BitVec 8} {a : Option Addr} {m cp : Nat} {b : List (BitVec 8)} (hB : BytesAt w a b) (hm : b.length = m) (hT : CrcTab w) (hE : mayE n P k m = 0) :
    Calls Tryd.prog 19 #[pt q 0, .int .u8 (ub k), .slice a m cp] w fun e w' => e = .returned (.tuple #[.int .u64 (P.length : Nat), .int .i64 0]) ∧ ∃ M', St w' M' p q n (P ++ [(k, b)]) s ∧ Tn w w' M M' := by
  obtain ⟨D, G, hj, h1, h2, h3, h4, h5, h6, h7⟩ := h
  have hg := h2.good h1n hn
  have hfew := hg.few
  have hRl := rs_of h3
  have hpl := p_len P
  have hfit := h2.fit
  have hE2 : G.takesE D.lives k m = 0 := by
    rw [← hE]
    unfold Lg.takesE mayE Lg.room
    rw [h6, if_neg (fun e => e rfl), h4, h5]
  have hbd : k ≠ 0#8 ∧ m ≤ 65536 ∧ (enc 0 P).length + (18 + m) ≤ n := by
    unfold mayE at hE
    split at hE
    · omega
    · split at hE
      · omega
      · split at hE
        · omega
        · exact ⟨by assumption, by omega, by omega⟩
  refine (append_ok hj hg.ok (by omega) (by omega) (by rw [h5, h2.len.1]) (by rw [h4, h5]; exact hfit) hB hm hT hE2).mono ?_
  rintro e w' ⟨rfl, D', G', hA⟩
  refine ⟨by rw [hRl], JMem q D' G', ⟨D', G', hA.at_, hA.gp.trans h1, ?_, ?_, ?_, hA.gs.trans h5, by rw [hA.gb, h6, hA.dl], fun x hx => hx⟩, ⟨hA.fr.wider h7, fun x hx => ?_⟩⟩
  · refine h2.append h4 (x := (k, b)) ⟨hbd.1, by show b.length ≤ _; rw [hm]; exact hbd.2.1⟩ (by show _ + (18 + b.length) ≤ n; rw [hm]; exact hbd.2.2) hA.dS ?_ ?_
    · rw [hA.dN, hRl]
    · obtain ⟨v, hv⟩ := hA.dW
      exact ⟨v, by rw [hv, hRl]⟩
  · obtain ⟨v, hv⟩ := hA.gR
    show G'.R.map _ = _
    rw [hv, List.map_append, show (G.R.map fun x => (x.k, x.b)) = P from h3]
    rfl
  · rw [hA.ge, h4, enc_app, Nat.zero_add, List.length_append]
    simp [enc, recL_len]
  · rcases hA.new x hx with e | e
    · exact .inl (h7 x e)
    · exact .inr e
theorem st_sync (h : St w M p q n P s) (h1n : 1 ≤ n) (hn : n ≤ 16777216) : Calls Tryd.prog 22 #[pt q 0] w fun e w' => e = .returned (.int .i64 0) ∧ ∃ M', St w' M' p q n P P.length ∧ Tn w w' M M' := by
  obtain ⟨D, G, hj, h1, h2, h3, h4, h5, h6, h7⟩ := h
  have hg := h2.good h1n hn
  refine (lsync_ok hj.lg hj.dk h6.symm hg.ok hg.pos (by have := hg.few; omega)).mono ?_
  rintro e w' ⟨rfl, hD, hF⟩
  have hsub : ∀ x, (D.calm (layAll D.S D.W) D.N).Mem G.p x → D.Mem G.p x := by
    rintro x (rfl | rfl | rfl | e | ⟨y, hy, _⟩)
    · exact .inl rfl
    · exact .inr (.inl rfl)
    · exact .inr (.inr (.inl rfl))
    · simp [Dk.calm, Value.ownBlock] at e
    · cases hy
  have hF2 : Fr (D.Mem G.p) w w' := hF.wider (fun x e => by rcases e with rfl | rfl; exact .inl rfl; exact .inr (.inl rfl))
  refine ⟨rfl, M, ⟨_, G, ⟨hD, hj.lg.fr hF2 (fun x hx => hj.ap x hx), fun x hx e => hj.ap x hx (hsub x e)⟩, h1, h2.sync rfl rfl rfl, h3, h4, h5, h6, fun x hx => h7 x (hx.imp (hsub x) id)⟩, ⟨hF2.wider (fun x e => h7 x (.inl e)), fun x e => .inl e⟩⟩
theorem st_dsync (h : St w M p q n P s) (h1n : 1 ≤ n) (hn : n ≤ 16777216) : Calls Tryd.prog 21 #[pt p 0] w fun e w' => e = .returned (.tuple #[]) ∧ ∃ M', St w' M' p q n P P.length ∧ Tn w w' M M' := by
  obtain ⟨D, G, hj, rfl, h2, h3, h4, h5, h6, h7⟩ := h
  have hg := h2.good h1n hn
  refine (dsync_any hj.dk hg.ok hg.pos (by have := hg.few; omega)).mono ?_
  rintro e w' ⟨rfl, hD, hF⟩
  have hsub : ∀ x, (D.calm (layAll D.S D.W) D.N).Mem G.p x → D.Mem G.p x := by
    rintro x (rfl | rfl | rfl | e | ⟨y, hy, _⟩)
    · exact .inl rfl
    · exact .inr (.inl rfl)
    · exact .inr (.inr (.inl rfl))
    · simp [Dk.calm, Value.ownBlock] at e
    · cases hy
  have hF2 : Fr (D.Mem G.p) w w' := hF.wider (fun x e => by rcases e with rfl | rfl; exact .inl rfl; exact .inr (.inl rfl))
  refine ⟨rfl, M, ⟨_, G, ⟨hD, hj.lg.fr hF2 (fun x hx => hj.ap x hx), fun x hx e => hj.ap x hx (hsub x e)⟩, rfl, h2.sync rfl rfl rfl, h3, h4, h5, h6, fun x hx => h7 x (hx.imp (hsub x) id)⟩, ⟨hF2.wider (fun x e => h7 x (.inl e)), fun x e => .inl e⟩⟩
theorem st_crash (h : St w M p q n P s) (h1n : 1 ≤ n) (hn : n ≤ 16777216) (keep torn : Int) : Calls Tryd.prog 23 #[pt p 0, .int .i64 keep, .int .i64 torn] w fun e w' => e = .returned (.tuple #[]) ∧ ∃ k, s ≤ k ∧ k ≤ P.length ∧ Dead w' M p q n P k ∧ Tn w w' M M := by
  obtain ⟨D, G, hj, rfl, h2, h3, h4, h5, h6, h7⟩ := h
  have hg := h2.good h1n hn
  refine (crash_any hj.dk hg.ok hg.pos (by have := hg.few; omega) keep torn).mono ?_
  rintro e w' ⟨rfl, hD, hF⟩
  obtain ⟨k, hk, hL, hS, hW⟩ := row2_crash h2 keep torn
  have hsub : ∀ x, (D.crash keep torn).Mem G.p x → D.Mem G.p x := by
    rintro x (rfl | rfl | rfl | e | ⟨y, hy, _⟩)
    · exact .inl rfl
    · exact .inr (.inl rfl)
    · exact .inr (.inr (.inl rfl))
    · simp [Dk.crash, Dk.calm, Value.ownBlock] at e
    · cases hy
  have hF2 : Fr (D.Mem G.p) w w' := hF.wider (fun x e => by rcases e with rfl | rfl | rfl; exact .inl rfl; exact .inr (.inl rfl); exact .inr (.inr (.inl rfl)))
  have hNl : (D.crash keep torn).N.length = n := by
    obtain ⟨_, B, hB, hBl, _⟩ := hL
    rw [hB]
    exact cont_len (Nat.le_trans hBl h2.fit)
  refine ⟨rfl, k, hk, hL.le, ⟨_, G, ⟨hD, hj.lg.fr hF2 (fun x hx => hj.ap x hx), fun x hx e => hj.ap x hx (hsub x e)⟩, rfl, hL, hS, hW, hNl, by rw [h4]; exact h2.fit, h5, ?_, fun x hx => h7 x (hx.imp (hsub x) id)⟩, ⟨hF2.wider (fun x e => h7 x (.inl e)), fun x e => .inl e⟩⟩
  rw [h6]
  exact nx_ne D.lives
theorem dead_append (h : Dead w M p q n P k) (hn : n ≤ 16777216) {kd : BitVec 8} {a : Option Addr} {m cp : Nat} :
    Calls Tryd.prog 19 #[pt q 0, .int .u8 (ub kd), .slice a m cp] w fun e w' => e = .returned (.tuple #[.int .u64 0, .int .i64 215]) ∧ Below w.heap.size w w' := by
  obtain ⟨D, G, hj, h1, h2, h3, h4, h5, h6, h7, h8, _⟩ := h
  exact append_no hj (by omega) (by omega) (if_pos h8) (by decide)
/-- What an Open leaves. -/
def Opened (w : World) (M : Nat → Prop) (p n : Nat) (P : List (BitVec 8 × List (BitVec 8))) (e : Ending) (w' : World) : Prop := ∃ q M', e = .returned (.tuple #[pt q 0, .int .i64 0]) ∧ St w' M' p q n P P.length ∧ Tn w w' M M'
theorem opened_of {D D' : Dk} {G : Lg} {q : Nat} (hF : ∀ x ∈ P, Fine x) (hfit : (enc 0 P).length ≤ n) (hX : Left P k n D.N) (hl : D.N.length = n) (hM : ∀ x, D.Mem p x → M x) (hO : Opn w w' p q { D with lives := nx D.lives } D' G) : Opened w M p n (P.take k) (.returned (.tuple #[pt q 0, .int .i64 0])) w' := by
  obtain ⟨hr, hpr, hen⟩ := row2_open (D := { D with lives := nx D.lives }) hF hfit hX hO
  refine ⟨q, JMem q D' G, rfl, ⟨D', G, hO.at_, hO.gp, hr, hpr, hen, hO.size.trans hl, by rw [hO.born, hO.dl], fun x hx => hx⟩, ⟨hO.fr.wider hM, fun x hx => ?_⟩⟩
  rcases hx with e | e
  · exact .inl (hM x (hO.dsub x (hO.gp ▸ e)))
  · exact .inr (hO.gnew x e)
theorem dead_open (h : Dead w M p q n P k) (hF : ∀ x ∈ P, Fine x) (hfit : (enc 0 P).length ≤ n) (h1n : 1 ≤ n) (hn : n ≤ 16777216) (hT : CrcTab w) : Calls Tryd.prog 9 #[pt p 0] w (Opened w M p n (P.take k)) := by
  obtain ⟨D, G, hj, rfl, h2, h3, h4, h5, h6, h7, h8, h9⟩ := h
  refine (open_any hj.dk (good_calm h3 h4 h5 h1n hn) hT).mono ?_
  rintro e w' ⟨q', D', G', rfl, hO⟩
  exact opened_of hF hfit h2 h5 (fun x hx => h9 x (.inl hx)) hO
theorem st_open (h : St w M p q n P s) (h1n : 1 ≤ n) (hn : n ≤ 16777216) (hT : CrcTab w) : Calls Tryd.prog 9 #[pt p 0] w (Opened w M p n P) := by
  obtain ⟨D, G, hj, rfl, h2, h3, h4, h5, h6, h7⟩ := h
  refine (open_any hj.dk (h2.good h1n hn) hT).mono ?_
  rintro e w' ⟨q', D', G', rfl, hO⟩
  have := opened_of (M := M) (p := G.p) h2.fine h2.fit h2.left_now h2.len.2 (fun x hx => h7 x (.inl hx)) hO
  rw [List.take_length] at this
  exact this
end
/-- A new disk is opened. -/
theorem new_open {w : World} {p n : Nat} {D : Dk} (hD : DkAt w p D) (hS : D.S = z n) (hN : D.N = z n) (hW : D.W = []) (h1n : 1 ≤ n) (hn : n ≤ 16777216) (hT : CrcTab w) : Calls Tryd.prog 9 #[pt p 0] w (Opened w (D.Mem p) p n []) := by
  have hl : D.N.length = n := by rw [hN, z_len]
  have hL : Left [] 0 n D.N := ⟨Nat.le_refl _, [], by rw [hN]; simp [cont, enc], by simp, fun i m => by simpa using rightP_zero i m⟩
  refine (open_any hD (good_calm (hS.trans hN.symm) hW hl h1n hn) hT).mono ?_
  rintro e w' ⟨q', D', G', rfl, hO⟩
  exact opened_of (P := []) (k := 0) (fun x hx => by cases hx) (by simp [enc]) hL hl (fun x hx => hx) hO
end Go.Proofs.YtfhjiggaacgncaaDoor
