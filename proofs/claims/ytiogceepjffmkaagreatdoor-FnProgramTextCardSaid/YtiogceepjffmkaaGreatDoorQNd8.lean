/- What a drawn list of statements holds: nodes of expressions and bytes of names, the measure. -/
import Derived.Test.YtiogceepjffmkaaGreatDoorQTk
import Derived.Test.YtiogceepjffmkaaGreatDoorQEr8
import Derived.Test.YtiogceepjffmkaaGreatDoorQMes
import Derived.Lib.LaidTab
import Derived.Lib.AppendIntMem
set_option maxHeartbeats 400000
set_option maxRecDepth 100000
namespace Go.Proofs.YtiogceepjffmkaaGreatDoor.Gd
open Go.RowKit Go.Lib Go.Sort Com Mem YtiogceepjffmkaaGreatDoor.Os Tr
mutual
def nxSt : St → Nat
 | .mk _ s e bs es => cntT e + s.length + nxL bs + nxL es
def nxL : List St → Nat
 | [] => 0
 | a :: r => nxSt a + nxL r
end
theorem nxSt_mk (k : Int) (s : List UInt8) (e : T) (bs es : List St) : nxSt (.mk k s e bs es) = cntT e + s.length + nxL bs + nxL es := by rw [nxSt]
theorem ex_nx (L : List St) : exL L ≤ nxL L := by
 have hs : ∀ L : List St, (∀ a ∈ L, exSt a ≤ nxSt a) → exL L ≤ nxL L := fun L hL => by
  induction L with
  | nil => simp [exL]
  | cons b r ih =>
   have := hL b (by simp)
   have := ih fun a ha => hL a (by simp [ha])
   simp only [exL, nxL] at *
   omega
 have key : ∀ t : St, exSt t ≤ nxSt t := fun t => by
  induction t using St.ind with
  | h k s e bs es h1 h2 =>
   have := hs bs h1
   have := hs es h2
   rw [exSt_mk, nxSt_mk]
   omega
 exact hs L fun a _ => key a
end Go.Proofs.YtiogceepjffmkaaGreatDoor.Gd
set_option maxRecDepth 100000
namespace Go.Proofs.YtiogceepjffmkaaGreatDoor.Tk
open Go.RowKit Go.Lib Go.Sort Com Mem YtiogceepjffmkaaGreatDoor.Os
def opsOf : Nat → List Int
 | 1 => [8]
 | 2 => [7]
 | 3 => [5, 6]
 | 4 => [1, 2]
 | 5 => [3, 4]
 | _ => []
theorem opsOf_few (l : Nat) : (opsOf l).length ≤ 8 := by
 unfold opsOf
 split <;> simp
theorem lev7 (w : World) (I J : TypeId) (o0 : Obj) (r1 r2 r3 r4 r5 top : List Value) {W : World} (hW : W = ((((((w.alloc o0).alloc (.cells r1.toArray I)).alloc (.cells r2.toArray I)).alloc (.cells r3.toArray I)).alloc (.cells r4.toArray I)).alloc (.cells r5.toArray I)).alloc (.cells top.toArray J)) :
  Below w.heap.size w W ∧ Blk W (w.heap.size + 1) I r1 ∧ Blk W (w.heap.size + 1 + 1) I r2 ∧ Blk W (w.heap.size + 1 + 1 + 1) I r3 ∧ Blk W (w.heap.size + 1 + 1 + 1 + 1) I r4 ∧ Blk W (w.heap.size + 1 + 1 + 1 + 1 + 1) I r5 ∧ Blk W (w.heap.size + 1 + 1 + 1 + 1 + 1 + 1) J top := by
 subst hW
 have e1 := Blk.new (w.alloc o0) I r1
 have e2 := Blk.new ((w.alloc o0).alloc (.cells r1.toArray I)) I r2
 have e3 := Blk.new (((w.alloc o0).alloc (.cells r1.toArray I)).alloc (.cells r2.toArray I)) I r3
 have e4 := Blk.new ((((w.alloc o0).alloc (.cells r1.toArray I)).alloc (.cells r2.toArray I)).alloc (.cells r3.toArray I)) I r4
 have e5 := Blk.new (((((w.alloc o0).alloc (.cells r1.toArray I)).alloc (.cells r2.toArray I)).alloc (.cells r3.toArray I)).alloc (.cells r4.toArray I)) I r5
 have e6 := Blk.new ((((((w.alloc o0).alloc (.cells r1.toArray I)).alloc (.cells r2.toArray I)).alloc (.cells r3.toArray I)).alloc (.cells r4.toArray I)).alloc (.cells r5.toArray I)) J top
 simp only [size_alloc'] at e1 e2 e3 e4 e5 e6
 refine ⟨?_, ((((e1.alloc _).alloc _).alloc _).alloc _).alloc _, (((e2.alloc _).alloc _).alloc _).alloc _, ((e3.alloc _).alloc _).alloc _, (e4.alloc _).alloc _, e5.alloc _, e6⟩
 have g := fun (v : World) (o : Obj) (h : Below w.heap.size w v) => h.alloc h.size o
 exact g _ _ (g _ _ (g _ _ (g _ _ (g _ _ (g _ _ (g _ _ (Below.refl _ _)))))))
theorem levs_any (w : World) : Calls Tryz.prog 190 #[] w fun e w' => ∃ B, e = .returned (.slice (some ⟨B, 0, none⟩) 6 6) ∧ Below w.heap.size w w' ∧
  ∀ l, 1 ≤ l → l ≤ 5 → ∃ b, w'.cell? ⟨B, l, none⟩ = some (.slice (some ⟨b, 0, none⟩) (opsOf l).length (opsOf l).length) ∧ Rd w' w'.heap.size (some ⟨b, 0, none⟩) ((opsOf l).map (Value.int .i64)) ∧ w.heap.size ≤ b := by
 go_enter Tryz.func190, Tryz.ntmps190
 go_wp2_with fail
 go_ret
 obtain ⟨hb, e1, e2, e3, e4, e5, e6⟩ := lev7 w 3 138 (.cells #[] 3) [.int .i64 8] [.int .i64 7] [.int .i64 5, .int .i64 6] [.int .i64 1, .int .i64 2] [.int .i64 3, .int .i64 4]
  [.slice (some ⟨w.heap.size, 0, none⟩) 0 0, .slice (some ⟨w.heap.size + 1, 0, none⟩) 1 1, .slice (some ⟨w.heap.size + 1 + 1, 0, none⟩) 1 1, .slice (some ⟨w.heap.size + 1 + 1 + 1, 0, none⟩) 2 2, .slice (some ⟨w.heap.size + 1 + 1 + 1 + 1, 0, none⟩) 2 2, .slice (some ⟨w.heap.size + 1 + 1 + 1 + 1 + 1, 0, none⟩) 2 2] rfl
 refine ⟨_, rfl, hb, fun l h1 h2 => ?_⟩
 have hl : l = 1 ∨ l = 2 ∨ l = 3 ∨ l = 4 ∨ l = 5 := by omega
 rcases hl with rfl | rfl | rfl | rfl | rfl
 ·exact ⟨_, e6.cell 1, e1.rd.more e1.lt, by omega⟩
 ·exact ⟨_, e6.cell 2, e2.rd.more e2.lt, by omega⟩
 ·exact ⟨_, e6.cell 3, e3.rd.more e3.lt, by omega⟩
 ·exact ⟨_, e6.cell 4, e4.rd.more e4.lt, by omega⟩
 ·exact ⟨_, e6.cell 5, e5.rd.more e5.lt, by omega⟩
open Num Tr
def seesB (ts : List Tok) (i : Nat) (s : List UInt8) : Bool := match ts[i]? with
 | some t => isWordB t s
 | none => false
def errAt (ts : List Tok) (en : Nat) (i : Nat) : Int := match ts[i]? with
 | some t => t.p
 | none => en
def opAt (ts : List Tok) (l i : Nat) : Int := ((opsOf l).find? fun op => seesB ts i (C3.symL op)).getD 0
abbrev constT (n : Int) : T := .mk 1 n [] []
abbrev varT (s : List UInt8) : T := .mk 2 0 s []
abbrev opT (o : Int) (a b : T) : T := .mk 3 o [] [a, b]
abbrev notT (a : T) : T := .mk 4 0 [] [a]
abbrev Res := Except Int (T × Nat)
mutual
def pz (ts : List Tok) (en : Nat) : Nat → Nat → Nat → Res
 | 0, _, _ => .error 0
 | n + 1, l, i =>
  if 7 ≤ l then
   match ts[i]? with
   | none => .error en
   | some t =>
    if t.k = 2 then .ok (constT t.n, i + 1)
    else if isWordB t [40] = true then
     match pz ts en n 1 (i + 1) with
     | .error a => .error a
     | .ok (e, j) => if seesB ts j [41] = true then .ok (e, j + 1) else .error (errAt ts en j)
    else if t.k = 1 ∧ C2.validB t.s = true then .ok (varT t.s, i + 1) else .error t.p
  else if l = 6 then
   if seesB ts i [33] = true then
    match pz ts en n 6 (i + 1) with
    | .error a => .error a
    | .ok (e, j) => .ok (notT e, j)
   else pz ts en n 7 i
  else
   match pz ts en n (l + 1) i with
   | .error a => .error a
   | .ok (e, j) => lz ts en n l e j
def lz (ts : List Tok) (en : Nat) : Nat → Nat → T → Nat → Res
 | 0, _, _, _ => .error 0
 | n + 1, l, e, j =>
  if opAt ts l j = 0 then .ok (e, j)
  else
   match pz ts en n (l + 1) (j + 1) with
   | .error a => .error a
   | .ok (r, k) => if l = 3 then .ok (opT (opAt ts l j) e r, k) else lz ts en n l (opT (opAt ts l j) e r) k
end
theorem sees_lt {ts : List Tok} {i : Nat} {s : List UInt8} (h : seesB ts i s = true) : i < ts.length := by
 unfold seesB at h
 split at h
 ·rename_i t ht
  exact lt_of_get ht
 ·cases h
theorem opAt_lt {ts : List Tok} {l j : Nat} (h : opAt ts l j ≠ 0) : j < ts.length := by
 unfold opAt at h
 cases hf : (opsOf l).find? fun op => seesB ts j (C3.symL op) with
 | none => rw [hf] at h; exact absurd rfl h
 | some o => exact sees_lt (s := C3.symL o) (List.find?_some (p := fun op => seesB ts j (C3.symL op)) hf)
theorem pz_adv (ts : List Tok) (en : Nat) (n : Nat) : (∀ l i e j, pz ts en n l i = .ok (e, j) → i < j ∧ j ≤ ts.length ∧ cntT e + i ≤ j) ∧ ∀ l e0 i e j i0, lz ts en n l e0 i = .ok (e, j) → i ≤ ts.length → cntT e0 + i0 ≤ i → i ≤ j ∧ j ≤ ts.length ∧ cntT e + i0 ≤ j := by
 induction n with
 | zero => exact ⟨fun l i e j h => (by rw [pz] at h; cases h), fun l e0 i e j i0 h _ _ => (by rw [lz] at h; cases h)⟩
 | succ n ih =>
  obtain ⟨ih1, ih2⟩ := ih
  refine ⟨fun l i e j h => ?_, fun l e0 i e j i0 h hi hc => ?_⟩
  ·rw [pz] at h
   split at h
   ·split at h
    ·cases h
    ·rename_i t ht
     have hl := lt_of_get ht
     split at h
     ·cases h; exact ⟨by omega, by omega, by rw [cntT_mk]; simp [cntK]; omega⟩
     ·split at h
      ·split at h
       ·cases h
       ·rename_i e' j' hp
        split at h
        ·rename_i hs
         have h1 := ih1 _ _ _ _ hp
         have h2 := sees_lt hs
         cases h
         omega
        ·cases h
      ·split at h
       ·cases h; exact ⟨by omega, by omega, by rw [cntT_mk]; simp [cntK]; omega⟩
       ·cases h
   ·split at h
    ·split at h
     ·split at h
      ·cases h
      ·rename_i e' j' hp
       have h1 := ih1 _ _ _ _ hp
       cases h
       refine ⟨by omega, by omega, ?_⟩
       rw [cntT_mk]
       simp only [cntK, List.map_cons, List.map_nil, List.sum_cons, List.sum_nil]
       omega
     ·exact ih1 _ _ _ _ h
    ·split at h
     ·cases h
     ·rename_i e' j' hp
      have h1 := ih1 _ _ _ _ hp
      have h2 := ih2 _ _ _ _ _ i h h1.2.1 h1.2.2
      omega
  ·rw [lz] at h
   split at h
   ·cases h; exact ⟨Nat.le_refl _, hi, hc⟩
   ·split at h
    ·cases h
    ·rename_i r k hp
     have h1 := ih1 _ _ _ _ hp
     have hcn : cntT (opT (opAt ts l i) e0 r) + i0 ≤ k := by
      rw [cntT_mk]
      simp only [cntK, List.map_cons, List.map_nil, List.sum_cons, List.sum_nil]
      omega
     split at h
     ·cases h; exact ⟨by omega, h1.2.1, hcn⟩
     ·have h2 := ih2 _ _ _ _ _ i0 h h1.2.1 hcn
      omega
def AtT (ts : List Tok) (en : Nat) (a : Int) : Prop := a = en ∨ ∃ t ∈ ts, a = t.p
theorem errAt_at (ts : List Tok) (en i : Nat) : AtT ts en (errAt ts en i) := by
 unfold errAt
 split
 ·rename_i t ht
  exact Or.inr ⟨t, List.mem_of_getElem? ht, rfl⟩
 ·exact Or.inl rfl
def need (ts : List Tok) (l i : Nat) : Nat := (ts.length - i) * 10 + (8 - l)
theorem pz_err (ts : List Tok) (en : Nat) (n : Nat) : (∀ l i a, pz ts en n l i = .error a → need ts l i ≤ n → l ≤ 7 → AtT ts en a) ∧ ∀ l e0 i a, lz ts en n l e0 i = .error a → need ts l i + 1 ≤ n → l ≤ 5 → AtT ts en a := by
 induction n with
 | zero => exact ⟨fun l i a _ hn hl => (by unfold need at hn; omega), fun l e0 i a _ hn _ => (by omega)⟩
 | succ n ih =>
  obtain ⟨ih1, ih2⟩ := ih
  refine ⟨fun l i a h hn hl => ?_, fun l e0 i a h hn hl => ?_⟩
  ·unfold need at hn
   rw [pz] at h
   split at h
   ·split at h
    ·cases h; exact Or.inl rfl
    ·rename_i t ht
     have hlt := lt_of_get ht
     split at h
     ·cases h
     ·split at h
      ·split at h
       ·rename_i a' hp
        cases h
        exact ih1 _ _ _ hp (by unfold need; omega) (by omega)
       ·rename_i e' j' hp
        split at h
        ·cases h
        ·cases h; exact errAt_at _ _ _
      ·split at h
       ·cases h
       ·cases h; exact Or.inr ⟨t, List.mem_of_getElem? ht, rfl⟩
   ·split at h
    ·split at h
     ·rename_i hs
      have hlt := sees_lt hs
      split at h
      ·rename_i a' hp
       cases h
       exact ih1 _ _ _ hp (by unfold need; omega) (by omega)
      ·cases h
     ·exact ih1 _ _ _ h (by unfold need; omega) (by omega)
    ·split at h
     ·rename_i a' hp
      cases h
      exact ih1 _ _ _ hp (by unfold need; omega) (by omega)
     ·rename_i e' j' hp
      have h1 := (pz_adv ts en n).1 _ _ _ _ hp
      exact ih2 _ _ _ _ h (by unfold need; omega) (by omega)
  ·unfold need at hn
   rw [lz] at h
   split at h
   ·cases h
   ·rename_i ho
    have hlt := opAt_lt ho
    split at h
    ·rename_i a' hp
     cases h
     exact ih1 _ _ _ hp (by unfold need; omega) (by omega)
    ·rename_i r k hp
     have h1 := (pz_adv ts en n).1 _ _ _ _ hp
     split at h
     ·cases h
     ·exact ih2 _ _ _ _ h (by unfold need; omega) (by omega)
open Ch
theorem tokz_le {S : List UInt8} (h : (tokz S).2 = -1) : S.length ≤ 400 := by
 rcases Nat.lt_or_ge 400 S.length with h1 | h1
 ·rw [tokz_big h1] at h; cases h
 ·exact h1
theorem tokz_off (S : List UInt8) : (tokz S).2 ≤ (S.length : Int) := by
 unfold tokz
 split
 ·rename_i h; show (400 : Int) ≤ _; omega
 ·rcases lex_end S.length S 0 [] (Nat.le_refl _) with h | ⟨_, h, _⟩
  ·rw [h]; omega
  ·omega
theorem errAt_ok {S : List UInt8} (h : (tokz S).2 = -1) (j : Nat) : 0 ≤ errAt (tokz S).1 S.length j ∧ errAt (tokz S).1 S.length j ≤ (S.length : Int) := by
 unfold errAt
 split
 ·rename_i t ht
  have := tokz_good (tokz_le h) t (List.mem_of_getElem? ht)
  omega
 ·omega
end Go.Proofs.YtiogceepjffmkaaGreatDoor.Tk
set_option maxRecDepth 100000
namespace Go.Proofs.YtiogceepjffmkaaGreatDoor.Sr
open Go.RowKit Go.Lib Com Mem YtiogceepjffmkaaGreatDoor.Os Tr Pl Gd
inductive StR (W : World) (B : Nat) : Value → St → Prop where
 | asg {ek en : Int} {es s : List UInt8} {A : Option Addr} {l c : Nat} {e : T} (hx : Ex W B (nv ek en es A l c) e) :
   StR W B (.iface 199 (.agg #[.int .i64 ek, .int .i64 en, sv es, .slice A l c, sv s])) (.mk 1 s e [] [])
 | chc {ek en : Int} {es : List UInt8} {A : Option Addr} {l c : Nat} {e : T} (hx : Ex W B (nv ek en es A l c) e) {bs ss : List St} (Ab As : Option Addr) (cb cs : Nat) (rb rs : Nat → Value) (hlb : bs.length ≤ maxI) (hls : ss.length ≤ maxI)
   (hb : ∀ j, j < bs.length → ∃ ad, Ab = some ad ∧ ad.block < B ∧ W.cell? (ad.add j) = some (rb j)) (kb : ∀ j t, bs[j]? = some t → StR W B (rb j) t)
   (hs : ∀ j, j < ss.length → ∃ ad, As = some ad ∧ ad.block < B ∧ W.cell? (ad.add j) = some (rs j)) (ks : ∀ j t, ss[j]? = some t → StR W B (rs j) t) :
   StR W B (.iface 201 (.agg #[.int .i64 ek, .int .i64 en, sv es, .slice A l c, .slice Ab bs.length cb, .slice As ss.length cs])) (.mk 2 [] e bs ss)
 | lop {ek en : Int} {es : List UInt8} {A : Option Addr} {l c : Nat} {e : T} (hx : Ex W B (nv ek en es A l c) e) {bs : List St} (Ab : Option Addr) (cb : Nat) (rb : Nat → Value) (hlb : bs.length ≤ maxI)
   (hb : ∀ j, j < bs.length → ∃ ad, Ab = some ad ∧ ad.block < B ∧ W.cell? (ad.add j) = some (rb j)) (kb : ∀ j t, bs[j]? = some t → StR W B (rb j) t) :
   StR W B (.iface 203 (.agg #[.int .i64 ek, .int .i64 en, sv es, .slice A l c, .slice Ab bs.length cb])) (.mk 3 [] e bs [])
 | emi {ek en : Int} {es : List UInt8} {A : Option Addr} {l c : Nat} {e : T} (hx : Ex W B (nv ek en es A l c) e) :
   StR W B (.iface 205 (.agg #[.int .i64 ek, .int .i64 en, sv es, .slice A l c])) (.mk 4 [] e [] [])
structure RowR (W : World) (B : Nat) (A : Option Addr) (L : List St) (rows : Nat → Value) : Prop where
 cell : ∀ j, j < L.length → ∃ ad, A = some ad ∧ ad.block < B ∧ W.cell? (ad.add j) = some (rows j)
 kid : ∀ j t, L[j]? = some t → StR W B (rows j) t
theorem StR.cry {w w' : World} {B B' : Nat} {X : Value} {t : St} (h : StR w B X t) (hc : Cry w w' B) (hB : B ≤ B') : StR w' B' X t := by
 induction h with
 | asg hx => exact .asg (Ex.cry hx hc hB)
 | chc hx Ab As cb cs rb rs hlb hls hb kb hs ks ihb ihs =>
  refine .chc (Ex.cry hx hc hB) Ab As cb cs rb rs hlb hls (fun j hj => ?_) ihb (fun j hj => ?_) ihs
  ·obtain ⟨ad, e, h1, h2⟩ := hb j hj
   exact ⟨ad, e, by omega, hc _ _ (by rw [add_block]; exact h1) h2⟩
  ·obtain ⟨ad, e, h1, h2⟩ := hs j hj
   exact ⟨ad, e, by omega, hc _ _ (by rw [add_block]; exact h1) h2⟩
 | lop hx Ab cb rb hlb hb kb ihb =>
  refine .lop (Ex.cry hx hc hB) Ab cb rb hlb (fun j hj => ?_) ihb
  obtain ⟨ad, e, h1, h2⟩ := hb j hj
  exact ⟨ad, e, by omega, hc _ _ (by rw [add_block]; exact h1) h2⟩
 | emi hx => exact .emi (Ex.cry hx hc hB)
theorem RowR.cry {w w' : World} {B B' : Nat} {A : Option Addr} {L : List St} {rows : Nat → Value} (h : RowR w B A L rows) (hc : Cry w w' B) (hB : B ≤ B') : RowR w' B' A L rows :=
 ⟨fun j hj => by
  obtain ⟨ad, e, h1, h2⟩ := h.cell j hj
  exact ⟨ad, e, by omega, hc _ _ (by rw [add_block]; exact h1) h2⟩, fun j t ht => (h.kid j t ht).cry hc hB⟩
theorem StR.form {W : World} {B : Nat} {X : Value} {t : St} (h : StR W B X t) : ∃ ty y, X = .iface ty y := by cases h <;> exact ⟨_, _, rfl⟩
def plz (w : World) (S : Nat → Bool) : World := { w with heap := w.heap.mapIdx fun k o => if S k then .cells #[] 0 (7, 7) else plo o }
theorem plz_at {w : World} {S : Nat → Bool} {k : Nat} (h : S k = false) : (plz w S).heap[k]? = (pln w).heap[k]? := by
 rw [pln_at]
 unfold plz
 simp only [Array.getElem?_mapIdx, h, Bool.false_eq_true, if_false]
theorem plz_cell {w : World} {S : Nat → Bool} {p : Addr} {v : Value} (h : (plz w S).cell? p = some v) : S p.block = false ∧ (pln w).cell? p = some v := by
 cases hS : S p.block with
 | false =>
  refine ⟨rfl, ?_⟩
  unfold World.cell? at *
  rw [plz_at hS] at h; exact h
 | true =>
  exfalso
  unfold World.cell? plz at h
  simp only [Array.getElem?_mapIdx, hS, if_true] at h
  cases hb : w.heap[p.block]? with
  | none => rw [hb] at h; simp at h
  | some o => rw [hb] at h; simp at h
theorem plz_in {w : World} {S : Nat → Bool} {p : Addr} {v : Value} (hS : S p.block = false) (h : (pln w).cell? p = some v) : (plz w S).cell? p = some v := by
 unfold World.cell? at *
 rw [plz_at hS]; exact h
theorem cry_z {w w' : World} {S S' : Nat → Bool} {B : Nat} (hc : ∀ k, k < B → S k = false → S' k = false ∧ w'.heap[k]? = w.heap[k]?) : Cry (plz w S) (plz w' S') B := fun p v hp hv => by
 obtain ⟨h1, h2⟩ := plz_cell hv
 obtain ⟨h3, h4⟩ := hc _ hp h1
 refine plz_in h3 ?_
 unfold World.cell? at *
 rw [pln_keep h4]; exact h2
theorem cry_zp (w : World) (S : Nat → Bool) (B : Nat) : Cry (plz w S) (pln w) B := fun _ _ _ hv => (plz_cell hv).2
theorem cry_pz {w w' : World} {S : Nat → Bool} {B : Nat} (hc : ∀ k, k < B → S k = false ∧ w'.heap[k]? = w.heap[k]?) : Cry (pln w) (plz w' S) B := fun p v hp hv => by
 obtain ⟨h3, h4⟩ := hc _ hp
 refine plz_in h3 ?_
 unfold World.cell? at *
 rw [pln_keep h4]; exact hv
theorem cry_pb {w w' : World} {B : Nat} (h : Below B w w') : Cry (pln w) (pln w') B := Cry.of_below (pln_below h)
theorem StR.go {w w' : World} {X : Value} {t : St} (h : StR (pln w) w.heap.size X t) (hb : Below w.heap.size w w') : StR (pln w') w'.heap.size X t := h.cry (cry_pb hb) hb.size
theorem RowR.go {w w' : World} {A : Option Addr} {L : List St} {rows : Nat → Value} (h : RowR (pln w) w.heap.size A L rows) (hb : Below w.heap.size w w') : RowR (pln w') w'.heap.size A L rows := h.cry (cry_pb hb) hb.size
def ivb (lo hi : Nat) : Nat → Bool := fun k => decide (lo ≤ k) && decide (k < hi)
theorem ivb_no {lo hi k : Nat} (h : k < lo ∨ hi ≤ k) : ivb lo hi k = false := by
 unfold ivb
 rcases h with h | h
 ·rw [decide_eq_false (by omega), Bool.false_and]
 ·rw [decide_eq_false (show ¬ k < hi by omega), Bool.and_false]
theorem ivb_of {lo hi k : Nat} (h : ivb lo hi k = false) : k < lo ∨ hi ≤ k := by
 unfold ivb at h
 by_cases h1 : lo ≤ k
 ·rw [decide_eq_true h1, Bool.true_and] at h
  exact Or.inr (by have := of_decide_eq_false h; omega)
 ·exact Or.inl (by omega)
def wow (S : Nat → Bool) (o : Option Nat) : Nat → Bool := fun k => S k || decide (o = some k)
theorem wow_of {S : Nat → Bool} {o : Option Nat} {k : Nat} (h : wow S o k = false) : S k = false ∧ o ≠ some k := by
 unfold wow at h
 rw [Bool.or_eq_false_iff] at h
 exact ⟨h.1, of_decide_eq_false h.2⟩
theorem wow_no {S : Nat → Bool} {o : Option Nat} {k : Nat} (h1 : S k = false) (h2 : o ≠ some k) : wow S o k = false := by
 unfold wow
 rw [h1, decide_eq_false h2]; rfl
abbrev IT : TypeId := 143
theorem infoI : (Tryz.prog.info? IT).map (fun i => (i.zero, i.size, i.bytes)) = some (some .nilIface, 1, 16) := by kernel_rfl
structure GrowR (w : World) (lo : Nat) (S : Nat → Bool) (v : Value) (L : List St) : Prop where
 row : ∃ xs : List Value, w.ownsRow lo IT 1 v L.length xs ∧ ∀ (j : Nat) (t : St), L[j]? = some t → ∃ X, xs[j]? = some X ∧ StR (plz w (wow S v.ownBlock)) w.heap.size X t
section
variable {w w' : World} {lo : Nat} {S : Nat → Bool} {v : Value} {L : List St}
theorem GrowR.nil (w : World) (lo : Nat) (S : Nat → Bool) : GrowR w lo S (.slice none 0 0) [] := ⟨[], World.ownsRow_nil _ _ _ _, fun j t ht => by simp at ht⟩
theorem GrowR.below (h : GrowR w lo S v L) (hb : Below w.heap.size w w') : GrowR w' lo S v L := by
 obtain ⟨xs, ho, hk⟩ := h
 refine ⟨xs, own_keep ho fun b h => hb.block b (own_ge ho h).2, fun j t ht => ?_⟩
 obtain ⟨X, h1, h2⟩ := hk j t ht
 exact ⟨X, h1, h2.cry (cry_z fun k hk hS => ⟨hS, hb.block k hk⟩) hb.size⟩
theorem GrowR.own (h : GrowR w lo S v L) {b : Nat} (hb : v.ownBlock = some b) : lo ≤ b ∧ b < w.heap.size := by
 obtain ⟨xs, ho, hk⟩ := h
 exact own_ge ho hb
theorem GrowR.rd (h : GrowR w lo S v L) (hS : ∀ k, lo ≤ k → S k = false) : ∃ A c rows, v = .slice A L.length c ∧ RowR (plz w S) w.heap.size A L rows ∧ L.length ≤ maxI := by
 obtain ⟨xs, ho, hk⟩ := h
 rcases ho with ⟨hx, ⟨rfl, hz⟩ | ⟨g, cap, cur, rfl, hg, hblk, hnc, hcm, hcs, ht⟩⟩
 ·have : L = [] := List.eq_nil_of_length_eq_zero hz
  subst this
  exact ⟨none, 0, fun _ => .nilIface, rfl, ⟨fun j hj => by simp at hj, fun j t ht => by simp at ht⟩, by simp⟩
 ·have hB : Blk w g IT cur.toList := by unfold Blk; simpa using hblk
  refine ⟨_, _, fun j => xs.getD j .nilIface, rfl, ⟨fun j hj => ?_, fun j t hjt => ?_⟩, by unfold maxLen at hcm; unfold maxI; omega⟩
  ·refine ⟨_, rfl, hB.lt, ?_⟩
   refine plz_in (by rw [add_block]; exact hS g hg) ?_
   rw [pln_in (by rw [add_block]; exact Blk.pl hB), add_zero, hB.cell]
   have hxl : xs.length = L.length := by rw [hx]; omega
   have e1 : xs[j]? = some (xs.getD j .nilIface) := by rw [List.getD_eq_getElem?_getD, List.getElem?_eq_getElem (by omega)]; rfl
   rw [← e1, ← ht, List.getElem?_take, if_pos (by omega)]
  ·obtain ⟨X, h1, h2⟩ := hk j t hjt
   have e1 : xs.getD j .nilIface = X := by rw [List.getD_eq_getElem?_getD, h1]; rfl
   show StR (plz w S) w.heap.size (xs.getD j .nilIface) t
   rw [e1]
   exact h2.cry (cry_z fun k _ hk => ⟨(wow_of hk).1, rfl⟩) (Nat.le_refl _)
theorem GrowR.app (hG : GrowR w lo S v L) (hbs : lo ≤ w.heap.size) (X : Value) (t : St) (hX : X.oneCell' = true) (hr : StR (plz w (wow S v.ownBlock)) w.heap.size X t) (hl : L.length < 1000000000)
  {o : Oper} {a : Act} {ops : Array Oper} {rest : List Oper} {Q : Exit → Act → World → Prop} (hgd : o.guard = none) (s x : Operand) (ho : o.op = .call { callee := .builtin .append, args := #[s, x], argTypes := #[85, 85] }) (hs : a.eval s = v)
  (g : Nat) (hg : g = w.heap.size) (hx : a.eval x = .slice (some ⟨g, 0, none⟩) 1 1)
  (hK : ∀ v' w', GrowR w' lo S v' (L ++ [t]) → w.grownBy w' v.ownBlock → wpList Tryz.prog ops Q rest (a.put o.dst v') w') :
  wpList Tryz.prog ops Q (o :: rest) a (w.alloc (.cells #[X] IT)) := by
 subst hg
 obtain ⟨i0, hi, hz0, hz1, hz2⟩ := info_parts infoI
 have hb1 := box_below w (.cells #[X] IT)
 have hG1 := hG.below hb1
 obtain ⟨xs, how, hk⟩ := hG1
 have hxl : xs.length = L.length := by have := how.1; omega
 refine wpList_append_own_at (P := Tryz.prog) _ hgd s x 85 ho lo IT i0 .nilIface 1 16 Tryz.underlying85 hi hz0 hz1 hz2 rfl (by decide) v L.length xs hs how ⟨w.heap.size, 0, none⟩ 1 1 [X] hx (by simp)
  (fun j u hu => ?_) (fun u hu => by rw [List.mem_singleton] at hu; subst hu; exact hX) (by unfold maxLen; omega) (by omega) (by rw [size_alloc']; omega) ?_
 ·rw [add_zero, (Blk.new w IT [X]).cell]; exact hu
 intro v' w' hown hgw _ hat
 refine hK v' w' ⟨xs ++ [X], by rw [List.length_append]; exact hown, fun j e he => ?_⟩ (gb_trans (World.grownBy_alloc w _ _) hgw)
 have hcry : Cry (plz (w.alloc (.cells #[X] IT)) (wow S v.ownBlock)) (plz w' (wow S v'.ownBlock)) (w.alloc (.cells #[X] IT)).heap.size := cry_z fun k hk hS => by
  obtain ⟨h1, h2⟩ := wow_of hS
  refine ⟨wow_no h1 ?_, hgw.block k hk fun e => h2 e.symm⟩
  rcases hat with e | e
  ·rw [e]; exact h2
  ·rw [e]
   intro h3
   have h4 : (w.alloc (.cells #[X] IT)).heap.size = k := Option.some.inj h3
   omega
 by_cases hjl : j < L.length
 ·rw [List.getElem?_append_left hjl] at he
  obtain ⟨Y, h1, h2⟩ := hk j e he
  exact ⟨Y, by rw [List.getElem?_append_left (by omega)]; exact h1, h2.cry hcry hgw.size⟩
 ·have hj2 := lt_of_get he
  rw [List.length_append, List.length_singleton] at hj2
  obtain rfl : j = L.length := by omega
  rw [List.getElem?_append_right (Nat.le_refl _), Nat.sub_self] at he
  cases he
  refine ⟨X, by rw [List.getElem?_append_right (by omega), hxl, Nat.sub_self]; rfl, ?_⟩
  exact (hr.cry (cry_z fun k hk hS => ⟨hS, hb1.block k hk⟩) hb1.size).cry hcry hgw.size
end
end Go.Proofs.YtiogceepjffmkaaGreatDoor.Sr
set_option maxRecDepth 100000
namespace Go.Proofs.YtiogceepjffmkaaGreatDoor.Gx
open Go.RowKit Go.Lib Go.Sort Com Mem Tr Im Ag Pl Kd
end Go.Proofs.YtiogceepjffmkaaGreatDoor.Gx
set_option maxRecDepth 100000
namespace Go.Proofs.YtiogceepjffmkaaGreatDoor.L2a
open Go.RowKit Go.Lib Com Mem Lh C2
theorem idx_from (L : List (List UInt8)) (l : List UInt8) : ∀ i : Nat, Lib.idxFromS (L.map fun x => (⟨x.toArray⟩ : ByteArray)) ⟨l.toArray⟩ i = if ixOf L l < 0 then -1 else ixOf L l + i := by
 induction L with
 | nil => intro i; simp [Lib.idxFromS, ixOf]
 | cons x r ih =>
  intro i
  by_cases h : x = l
  ·subst h
   have e : ixOf (x :: r) x = 0 := by simp [ixOf]
   rw [e]; simp [Lib.idxFromS]
  ·have h' : ¬ ((⟨x.toArray⟩ : ByteArray) = ⟨l.toArray⟩) := fun e => h (by simpa using e)
   have e : ixOf (x :: r) l = if ixOf r l < 0 then -1 else ixOf r l + 1 := by simp [ixOf, h]
   rw [List.map_cons, Lib.idxFromS, if_neg h', ih, e]
   by_cases h2 : ixOf r l < 0
   ·simp [h2]
   ·rw [if_neg h2, if_neg h2, if_neg (by omega)]; omega
theorem idx_bridge (L : List (List UInt8)) (l : List UInt8) : Lib.idxOfS (L.map fun x => (⟨x.toArray⟩ : ByteArray)) ⟨l.toArray⟩ = ixOf L l := by
 have h := idx_from L l 0
 have hb := ixOf_bd L l
 unfold Lib.idxOfS
 rw [h]
 split <;> omega
theorem index_any (A : Option Addr) (c B : Nat) (L : List (List UInt8)) (l : List UInt8) (w : World) (h : Rd w B A (L.map sv)) (hA : ∀ ad, A = some ad → ad = ⟨ad.block, 0, none⟩) (hn : L.length ≤ 9223372036854775807) :
  Calls Tryz.prog 132 #[.slice A L.length c, .string ⟨l.toArray⟩] w fun e w' => e = .returned (.int .i64 (ixOf L l)) ∧ w = w' := by
 have hc : Calls Tryz.prog 169 #[.slice A L.length c, .string ⟨l.toArray⟩] w fun e w' => e = .returned (.int .i64 (ixOf L l)) ∧ w' = w := by
  by_cases h0 : L = []
  ·subst h0
   have := Tryz.slices_Index_string_empty A c ⟨l.toArray⟩ w
   have e := idx_bridge [] l
   rw [List.map_nil] at e
   rw [e] at this
   exact this
  ·obtain ⟨ad, rfl, _, hcs⟩ := h (by simpa using h0)
   have had := hA ad rfl
   generalize ad.block = g at *
   subst had
   have hc := Tryz.slices_Index_string g 0 L.length c (L.map fun x => (⟨x.toArray⟩ : ByteArray)) ⟨l.toArray⟩ w (by simp) hn (fun j hj => by
    rw [List.length_map] at hj
    have := hcs j (sv L[j]) (by simp [hj])
    have e : (⟨g, 0, none⟩ : Addr).add j = ⟨g, 0 + j, none⟩ := by unfold Addr.add; split <;> simp_all
    rw [← e, this]
    simp [hj])
   rw [List.take_of_length_le (by simp), idx_bridge] at hc
   exact hc
 have hc := hid hc
 go_enter Tryz.func132, Tryz.ntmps132
 go_wp2_with fail
 refine hc.out.mono ?_
 rintro e w' ⟨rfl, rfl⟩
 go_wp2_with fail
 go_ret
 exact ⟨rfl, rfl⟩
end Go.Proofs.YtiogceepjffmkaaGreatDoor.L2a
set_option maxRecDepth 100000
namespace Go.Proofs.YtiogceepjffmkaaGreatDoor.L1b
open Go.RowKit Go.Lib Num Com C1
def Pow (w : World) : Prop := Lib.TabIs Tryz.prog w "internal/strconv.uint64pow10" .u64 Lib.pow10Tab
theorem Pow.below {w w' : World} (h : Pow w) (hb : Below w.heap.size w w') : Pow w' := by
 exact var_below h hb
theorem met_tail {P : Program} {W : World} {x : String × DataW Unit} {r : List (String × DataW Unit)} (h : laidMet P (x :: r) W) : laidMet P r W := by
 obtain ⟨n, d⟩ := x
 obtain ⟨ps, ⟨g, t, cs, fuel, p, q, _, _, _, _, hr, rfl⟩, hnd, hrows⟩ := h
 have hs : q.Sublist (MemPlace.row ⟨g, 0, none⟩ cs.size ++ p ++ q) := List.sublist_append_right _ _
 exact ⟨q, hr, hnd.sublist hs, fun b off hp => hrows b off (hs.subset hp)⟩
theorem implFormat (n : Int) (h0 : -9223372036854775808 ≤ n) (h1 : n ≤ 9223372036854775807) (w : World) (hp : Pow w) : Calls Tryz.prog 215 #[.int .i64 n] w fun e w' => e = .returned (.string ⟨(itoa n).toArray⟩) ∧ Below w.heap.size w w' := by
 have hc := hid (Tryz.strconv_Itoa n h0 h1 w hp)
 clear hp
 go_enter Tryz.func215, Tryz.ntmps215
 go_wp2_with fail
 refine hc.out.mono ?_
 rintro e w' ⟨rfl, k, os, rfl⟩
 go_wp2_with fail
 go_ret
 exact ⟨rfl, below_grow _ _ (Nat.le_refl _) _ _⟩
end Go.Proofs.YtiogceepjffmkaaGreatDoor.L1b
set_option maxRecDepth 100000
namespace Go.Proofs.YtiogceepjffmkaaGreatDoor.C1j
open Go.RowKit Go.Lib Com Mem Lh
def jl (sep : List UInt8) : List (List UInt8) → List UInt8
 | [] => []
 | [x] => x
 | x :: y :: r => x ++ sep ++ jl sep (y :: r)
theorem join_jl (sep : List UInt8) : ∀ l : List (List UInt8), Lib.join l sep = jl sep l
 | [] => rfl
 | [x] => by simp [Lib.join, jl, List.intercalate]
 | x :: y :: r => by
  have h := join_jl sep (y :: r)
  unfold Lib.join at h ⊢
  simp only [jl, ← h, List.intercalate, List.intersperse_cons_cons, List.flatten_cons, List.append_assoc]
end Go.Proofs.YtiogceepjffmkaaGreatDoor.C1j
