/- The text of a valid program has no space too many; normalizing its spaces. -/
import Derived.Test.YtiogceepjffmkaaGreatDoorQRp
import Derived.Test.YtiogceepjffmkaaGreatDoorQP6a
import Derived.Test.YtiogceepjffmkaaGreatDoorQC5i
set_option maxHeartbeats 2000000
set_option maxRecDepth 100000
namespace Go.Proofs.YtiogceepjffmkaaGreatDoor.Gd
open Go.RowKit Go.Lib Num Mem Ch Tr Tk
def nsp : Bool → List UInt8 → List UInt8
 | _, [] => []
 | b, c :: r => if c = 32 then nsp true r else (if b = true then [32] else []) ++ (c :: nsp false r)
def Asc (x : List UInt8) : Prop := ∀ c ∈ x, c.toNat < 128
theorem Asc.app {x y : List UInt8} (h : Asc x) (k : Asc y) : Asc (x ++ y) := fun c hc => by
 rcases List.mem_append.1 hc with h1 | h1
 ·exact h c h1
 ·exact k c h1
theorem Asc.cons {c : UInt8} {y : List UInt8} (h : c.toNat < 128) (k : Asc y) : Asc (c :: y) := fun d hd => by
 rcases List.mem_cons.1 hd with rfl | h1
 ·exact h
 ·exact k d h1
structure Nrm (x : List UInt8) : Prop where
 go : ∀ b r, nsp b (x ++ r) = (if b = true then [32] else []) ++ (x ++ nsp false r)
 asc : Asc x
theorem Nrm.one {c : UInt8} (h : c ≠ 32) (ha : c.toNat < 128) : Nrm [c] := ⟨fun b r => by
 show nsp b (c :: r) = _
 rw [nsp, if_neg h]; rfl, Asc.cons ha (fun _ hd => by cases hd)⟩
theorem Nrm.app {x y : List UInt8} (h : Nrm x) (k : Nrm y) : Nrm (x ++ y) := ⟨fun b r => by
 rw [List.append_assoc, h.go, k.go]
 simp, h.asc.app k.asc⟩
theorem Nrm.sp {x y : List UInt8} (h : Nrm x) (k : Nrm y) : Nrm (x ++ 32 :: y) := ⟨fun b r => by
 rw [List.append_assoc, h.go, List.cons_append, nsp, if_pos rfl, k.go]
 simp, h.asc.app (Asc.cons (by decide) k.asc)⟩
theorem Nrm.of {x : List UInt8} (hne : x ≠ []) (h : ∀ c ∈ x, c ≠ 32 ∧ c.toNat < 128) : Nrm x := by
 induction x with
 | nil => exact absurd rfl hne
 | cons c r ih =>
  by_cases hr : r = []
  ·subst hr; exact Nrm.one (h c (by simp)).1 (h c (by simp)).2
  ·have := (Nrm.one (h c (by simp)).1 (h c (by simp)).2).app (ih hr fun d hd => h d (by simp [hd]))
   simpa using this
theorem wd_nrm {c : UInt8} (h : isWd c = true) : c ≠ 32 ∧ c.toNat < 128 := by
 unfold isWd isLow isDig at h
 simp only [Bool.or_eq_true, Bool.and_eq_true, decide_eq_true_eq] at h
 have hn : c.toNat < 128 ∧ c.toNat ≠ 32 := by omega
 exact ⟨fun e => hn.2 (by rw [e]; rfl), hn.1⟩
theorem nameS_nrm {s : List UInt8} (h : NameS s) : Nrm s := by
 obtain ⟨b, q, rfl, hb, hall, _⟩ := h
 exact Nrm.of (by simp) fun c hc => wd_nrm (hall c hc)
theorem symL_nrm {n : Int} (h : 1 ≤ n ∧ n ≤ 8) : Nrm (C3.symL n) := by
 rcases C3.op_cases h.1 h.2 with rfl | rfl | rfl | rfl | rfl | rfl | rfl | rfl <;> exact Nrm.of (by decide) (by decide)
theorem paren_nrm {x : List UInt8} (h : Nrm x) (b : Bool) : Nrm (paren x b) := by
 unfold paren
 cases b with
 | false => exact h
 | true => exact (Nrm.one (c := 40) (by decide) (by decide)).app (h.app (Nrm.one (c := 41) (by decide) (by decide)))
theorem txt_nrm (t : T) : allT t = true → Nrm (txtT7 t) := by
 induction t using T.ind with
 | h k n s ks ih =>
  intro hall
  have hnode : nodeB k n s ks.length = true := by rw [allT_mk, Bool.and_eq_true] at hall; exact hall.2
  rcases node_cases hnode with rfl | rfl | ⟨rfl, a, b, rfl⟩ | ⟨rfl, a, rfl⟩
  ·unfold nodeB at hnode
   rw [if_pos rfl, Bool.and_eq_true] at hnode
   have hw := C3.isW_iff.1 hnode.1
   rw [txt7_1, itoa_one hw.1 hw.2]
   have hb : (UInt8.ofNat (48 + n.toNat)).toNat = 48 + n.toNat := by rw [UInt8.toNat_ofNat']; omega
   exact Nrm.one (fun e => by rw [e] at hb; have : (32 : UInt8).toNat = 32 := rfl; omega) (by omega)
  ·unfold nodeB at hnode
   rw [if_neg (by decide), if_pos rfl, Bool.and_eq_true] at hnode
   rw [txt7_2]
   exact nameS_nrm (valid_name hnode.1)
  ·have hop : 1 ≤ n ∧ n ≤ 8 := by
    unfold nodeB at hnode
    rw [if_neg (by decide), if_neg (by decide), if_pos rfl, Bool.and_eq_true] at hnode
    have := hnode.1
    simp only [C3.inB, Bool.and_eq_true, decide_eq_true_eq] at this
    omega
   have hA := paren_nrm (ih a (by simp) (allT_2 hall).1) (decide (lvlT a < if lvl 3 n = 3 then 4 else lvl 3 n))
   have hB := paren_nrm (ih b (by simp) (allT_2 hall).2) (decide (lvlT b < lvl 3 n + 1))
   rw [txt7_3]
   have := hA.sp ((symL_nrm hop).sp hB)
   simpa using this
  ·have hA := paren_nrm (ih a (by simp) (allT_1 hall)) (decide (lvlT a < 6))
   rw [txt7_4]
   exact (Nrm.one (c := 33) (by decide) (by decide)).app hA
theorem X_nrm {e : T} (he : okT e = true) : Nrm (fmtX e) := by
 have : fmtX e = txtT7 e := by unfold fmtX; rw [if_pos he]
 rw [this]
 exact txt_nrm e (ok_parts he).2
theorem J_nrm {x : List UInt8} (hx : Nrm x) (L : List St) (h : ∀ a ∈ L, Nrm (tSt a)) : Nrm (x ++ tJ L) := by
 induction L generalizing x with
 | nil => rw [tJ, List.append_nil]; exact hx
 | cons a r ih =>
  have := ih (hx.sp (h a (by simp))) fun b hb => h b (by simp [hb])
  rw [tJ]
  simpa using this
theorem B_nrm {L : List St} (h : ∀ a ∈ L, Nrm (tSt a)) : Nrm (tB L) := by
 have := (J_nrm (Nrm.one (c := 123) (by decide) (by decide)) L h).sp (Nrm.one (c := 125) (by decide) (by decide))
 unfold tB
 simpa using this
theorem st_nrm {V : List (List UInt8)} (hV : ∀ x ∈ V, C2.validB x = true) (t : St) : OkS V t → Nrm (tSt t) := by
 induction t using St.ind with
 | h k s e bs es ih1 ih2 =>
  intro h
  rw [tSt_mk]
  cases h with
  | asg hs he =>
   rw [if_pos rfl]
   have := (nameS_nrm (valid_name (hV s hs))).sp ((Nrm.of (x := [58, 61]) (by decide) (by decide)).sp ((X_nrm he).sp (Nrm.one (c := 59) (by decide) (by decide))))
   simpa using this
  | emit he =>
   rw [if_neg (by decide), if_pos rfl]
   have := (nameS_nrm kw_name.1).sp ((X_nrm he).sp (Nrm.one (c := 59) (by decide) (by decide)))
   simpa using this
  | loop he hb =>
   rw [if_neg (by decide), if_neg (by decide), if_pos rfl]
   have := (nameS_nrm kw_name.2.1).sp ((X_nrm he).sp (B_nrm fun a ha => ih1 a ha (hb a ha)))
   simpa using this
  | cond he hb hc =>
   rw [if_neg (by decide), if_neg (by decide), if_neg (by decide), if_pos rfl]
   have hB := B_nrm fun a ha => ih1 a ha (hb a ha)
   have hC := B_nrm fun a ha => ih2 a ha (hc a ha)
   split
   ·have := (nameS_nrm kw_name.2.2.1).sp ((X_nrm he).sp (hB.sp ((nameS_nrm kw_name.2.2.2.1).sp hC)))
    simpa using this
   ·have := (nameS_nrm kw_name.2.2.1).sp ((X_nrm he).sp hB)
    simpa using this
def jn : List (List UInt8) → List UInt8
 | [] => []
 | [a] => a
 | a :: b :: r => a ++ 32 :: jn (b :: r)
theorem jn_nrm (b : Bool) (L : List (List UInt8)) (h : ∀ a ∈ L, Nrm a) (r : List UInt8) : nsp b (32 :: (jn L ++ (32 :: r))) = vJ L ++ nsp true r := by
 induction L generalizing b with
 | nil => rw [nsp, if_pos rfl, jn, List.nil_append, nsp, if_pos rfl, vJ, List.nil_append]
 | cons a q ih =>
  have ha := h a (by simp)
  cases q with
  | nil =>
   rw [nsp, if_pos rfl, jn, ha.go, nsp, if_pos rfl, vJ, vJ]
   simp
  | cons c q =>
   rw [nsp, if_pos rfl, jn, List.append_assoc, ha.go, List.cons_append, ih false fun x hx => h x (by simp [hx]), show vJ (a :: c :: q) = 32 :: (a ++ vJ (c :: q)) from rfl]
   simp
theorem jn_end (b : Bool) (L : List (List UInt8)) (h : ∀ a ∈ L, Nrm a) : nsp b (32 :: jn L) = vJ L := by
 induction L generalizing b with
 | nil => rw [nsp, if_pos rfl, jn, vJ]; rfl
 | cons a q ih =>
  have ha := h a (by simp)
  cases q with
  | nil =>
   have := ha.go true []
   rw [List.append_nil] at this
   rw [nsp, if_pos rfl, jn, this, vJ, vJ]
   simp [nsp]
  | cons c q =>
   rw [nsp, if_pos rfl, jn, ha.go, ih false fun x hx => h x (by simp [hx]), show vJ (a :: c :: q) = 32 :: (a ++ vJ (c :: q)) from rfl]
   simp
theorem vJ_tL (L : List St) : vJ (tL L) = tJ L := by
 induction L with
 | nil => rfl
 | cons a r ih =>
  show vJ (tSt a :: tL r) = _
  rw [vJ, tJ, ih]
theorem jn_asc (L : List (List UInt8)) (h : ∀ a ∈ L, Nrm a) : Asc (jn L) := by
 induction L with
 | nil => rw [jn]; exact fun _ hd => by cases hd
 | cons a q ih =>
  cases q with
  | nil => rw [jn]; exact (h a (by simp)).asc
  | cons c q => rw [jn]; exact (h a (by simp)).asc.app (Asc.cons (by decide) (ih fun x hx => h x (by simp [hx])))
def rawP (V : List (List UInt8)) (L : List St) : List UInt8 := ([118, 97, 114, 115, 32] ++ jn V ++ [32, 59, 32]) ++ jn (tL L)
theorem raw_nrm {p : Pg} (h : okP p = true) : nsp false (rawP p.vs p.body) = fmtP p ∧ Asc (rawP p.vs p.body) := by
 obtain ⟨hV, hS⟩ := ok_prog h
 have h1 : ∀ a ∈ p.vs, Nrm a := fun a ha => nameS_nrm (valid_name (hV a ha))
 have h2 : ∀ a ∈ tL p.body, Nrm a := fun a ha => by
  obtain ⟨t, ht, rfl⟩ := List.mem_map.1 ha
  exact st_nrm hV t (hS t ht)
 have e0 : rawP p.vs p.body = varsW ++ 32 :: (jn p.vs ++ 32 :: ([59] ++ 32 :: jn (tL p.body))) := by unfold rawP; simp
 have hf : fmtP p = varsW ++ (vJ p.vs ++ (32 :: ([59] ++ tJ p.body))) := by unfold fmtP; rw [if_pos h]; simp
 constructor
 ·rw [e0, (nameS_nrm kw_name.2.2.2.2).go, jn_nrm false _ h1, (Nrm.one (c := 59) (by decide) (by decide)).go, jn_end false _ h2, vJ_tL, hf]
  simp
 ·unfold rawP
  exact ((Asc.app (Asc.app (fun c hc => by revert c; decide) (jn_asc _ h1)) (fun c hc => by revert c; decide))).app (jn_asc _ h2)
end Go.Proofs.YtiogceepjffmkaaGreatDoor.Gd
set_option maxRecDepth 100000
namespace Go.Proofs.YtiogceepjffmkaaGreatDoor.Tk
open Go.RowKit Go.Lib Go.Sort Num Com Mem YtiogceepjffmkaaGreatDoor.Os Tr
theorem rd_self {w : World} {B b : Nat} {xs : List Value} (h : Rd w B (some ⟨b, 0, none⟩) xs) : Rd w (b + 1) (some ⟨b, 0, none⟩) xs := fun hn => by
 obtain ⟨ad, e, _, hc⟩ := h hn
 cases e
 exact ⟨_, rfl, Nat.lt_succ_self b, hc⟩
def NewOk (S : List UInt8) (w : World) (e : Ending) (w' : World) : Prop := Below w.heap.size w w' ∧
 if (tokz S).2 = -1 then ∃ g b c, e = .returned (.tuple #[.pointer (some ⟨g, 0, none⟩), .nilIface]) ∧ Prs w' g b c (uz (tokz S).1 (S.length : Nat)) 0 ∧ w.heap.size ≤ g ∧ w.heap.size ≤ b
 else e = .returned (.tuple #[.pointer none, errV (tokz S).2])
theorem newp_any (S : List UInt8) (hS : S.length ≤ 9223372036854775807) (w : World) : Calls Tryz.prog 109 #[.string ⟨S.toArray⟩] w (NewOk S w) := by
 have ht := itokz S hS w
 unfold TokOk at ht
 have hbad := hid (tokz_bad (S := S))
 have hsm := hid (tokz_le (S := S))
 have h150 := tokz_len S
 unfold NewOk
 generalize hT : tokz S = T at *
 obtain ⟨L, bad⟩ := T
 dsimp only at ht hbad hsm h150 ⊢
 have ht := hid ht
 by_cases hneg : bad = -1
 ·subst hneg
  have hS4 := hsm.out rfl
  simp only [if_pos]
  clear hbad hsm hT
  go_enter Tryz.func109, Tryz.ntmps109
  go_wp2_with fail
  refine ht.out.mono ?_
  rintro e w2 ⟨r, rfl, ho, hb⟩
  have hrow := hid ho.row
  have hb := hid hb
  have hsz := hb.out.size
  clear ho ht
  go_wp2_with (at_builtin; refine app_tok hrow.out hsz ⟨0, 0, (S.length : Nat), []⟩ (by omega) rfl _ _ rfl rfl _ rfl rfl ?_; intro v5 w5 hr5 hg5; obtain ⟨g5, c5, rfl, hge, -⟩ := row_last hr5; have hb5 := hid (below_row hb.out hrow.out hg5 hsz); replace hr5 := hid hr5; clear hg5)
  go_ret2
  have hO : OwnT w.heap.size w5.heap.size w5 (.slice (some ⟨g5, 0, none⟩) (L.length + 1) c5) (uz L (S.length : Nat)) := OwnT.of_row hr5.out
  obtain ⟨A, c, e, hrd, hc, hm, -, -⟩ := hO.read
  rw [uz_len] at e
  injection e with e1 e2 e3
  subst e1 e3
  have hblk : Blk (w5.alloc (.cells #[.slice (some ⟨g5, 0, none⟩) (L.length + 1) c5] PT)) w5.heap.size PT [.slice (some ⟨g5, 0, none⟩) (L.length + 1) c5] := Blk.new w5 PT _
  have hg5 : g5 < w5.heap.size := by
   obtain ⟨ad, e, hlt, -⟩ := hrd (by intro h; have := congrArg List.length h; rw [cellsT_len, uz_len] at this; simp at this)
   cases e; exact hlt
  have hsz5 := hb5.out.size
  refine ⟨hb5.out.alloc hsz5 _, _, g5, c5, rfl, ⟨⟨L.length + 1, c5, by rw [Nat.zero_mul]; exact hblk, by rw [uz_len]; omega, by omega, by omega⟩, ⟨hc, hm⟩, (rd_self hrd).below ((box_below w5 _).mono (by omega)), by omega⟩, hsz5, hge⟩
 ·obtain ⟨hL, h0⟩ := hbad.out hneg
  have t1 : decide (0 ≤ bad) = true := decide_eq_true h0
  simp only [if_neg hneg]
  clear hbad hsm hT hL
  go_enter Tryz.func109, Tryz.ntmps109
  go_wp2_with fail
  refine ht.out.mono ?_
  rintro e w2 ⟨r, rfl, ho, hb⟩
  clear ho
  have hb := hid hb
  go_wp2_with fail
  go_ret2
  exact ⟨hb.out, rfl⟩
def NotV (w : World) : Prop := ∃ p, w.cell? ⟨0, 0, none⟩ = some (.iface As.PES (.pointer p))
theorem NotV.lt {w : World} (h : NotV w) : 0 < w.heap.size := by
 obtain ⟨p, h⟩ := h
 rcases Nat.lt_or_ge 0 w.heap.size with h1 | h1
 ·exact h1
 ·simp [World.cell?, Array.getElem?_eq_none h1] at h
theorem NotV.below {w w' : World} (h : NotV w) (hb : Below w.heap.size w w') : NotV w' := by
 have hlt := h.lt
 obtain ⟨p, h⟩ := h
 exact ⟨p, (hb.cell hlt).trans h⟩
theorem hand_below {w w' : World} (h : As.Handle w) (hb : Below w.heap.size w w') : As.Handle w' := h.below hb h.lt
theorem off_hit (a : Int) (w : World) (hh : As.Handle w) : Calls Tryz.prog 70 #[errV a] w fun e w' => e = .returned (.int .i64 a) ∧ Below w.heap.size w w' := by
 have hB := Blk.new w As.SE [.int .i64 0]
 have hb1 : Below w.heap.size w (w.alloc (.cells #[.int .i64 0] As.SE)) := box_below _ _
 have hc := hid (As.as_hit a w.heap.size _ (hand_below hh hb1) hB)
 have hlt : w.heap.size < (w.alloc (.cells #[.int .i64 0] As.SE)).heap.size := hB.lt
 have hB := hid hB
 have hb1 := hid hb1
 go_enter Tryz.func70, Tryz.ntmps70
 go_wp2_with fail
 generalize (w.alloc (.cells #[.int .i64 0] As.SE)) = w1 at *
 refine hc.out.mono ?_
 rintro e w2 ⟨rfl, hw2⟩
 have b2 : Below w1.heap.size w1 ((((w1.alloc (.cells #[.pointer (some ⟨w.heap.size, 0, none⟩)] As.PSE)).alloc (.cells #[.pointer (some ⟨As.HB, As.PSE, none⟩), .pointer (some ⟨w1.heap.size, 0, none⟩), .int .u64 150] As.VT)).alloc (.cells #[.pointer (some ⟨As.HB, As.PSE, none⟩), .pointer (some ⟨w1.heap.size, 0, none⟩), .int .u64 150] As.VT)).alloc (.cells #[.int .i64 a] As.SE)) :=
  ((((Below.refl _ _).alloc (Nat.le_refl _) _).alloc (by rw [size_alloc']; omega) _).alloc (by rw [size_alloc', size_alloc']; omega) _).alloc (by rw [size_alloc', size_alloc', size_alloc']; omega) _
 have B2 := ((hB.out.below b2 hB.out.lt).set_ 0 (.int .i64 a)).cell 0
 rw [← hw2] at B2
 have b3 : Below w.heap.size w w2 := by
  rw [hw2]
  exact (hb1.out.trans (b2.mono hb1.out.size)).setCell (p := ⟨w.heap.size, 0, none⟩) (Nat.le_refl _) _
 have b3 := hid b3
 have B2 : w2.cell? ⟨w.heap.size, 0, none⟩ = some (.int .i64 a) := B2
 clear hw2 b2 hB hb1 hc hh
 go_wp2_with fail
 go_ret
 exact ⟨rfl, b3.out⟩
theorem off_miss (p : Option Addr) (w : World) (hh : As.Handle w) : Calls Tryz.prog 70 #[.iface As.PES (.pointer p)] w fun e w' => e = .returned (.int .i64 0) ∧ Below w.heap.size w w' := by
 have hB := Blk.new w As.SE [.int .i64 0]
 have hb1 : Below w.heap.size w (w.alloc (.cells #[.int .i64 0] As.SE)) := box_below _ _
 have hc := hid (As.as_miss p w.heap.size _ (hand_below hh hb1) hB)
 have hb1 := hid hb1
 clear hB
 go_enter Tryz.func70, Tryz.ntmps70
 go_wp2_with fail
 generalize (w.alloc (.cells #[.int .i64 0] As.SE)) = w1 at *
 refine hc.out.mono ?_
 rintro e w2 ⟨rfl, hw2⟩
 have b2 : Below w1.heap.size w1 (((w1.alloc (.cells #[.pointer (some ⟨w.heap.size, 0, none⟩)] As.PSE)).alloc (.cells #[.pointer (some ⟨As.HB, As.PSE, none⟩), .pointer (some ⟨w1.heap.size, 0, none⟩), .int .u64 150] As.VT)).alloc (.cells #[.pointer (some ⟨As.HB, As.PSE, none⟩), .pointer (some ⟨w1.heap.size, 0, none⟩), .int .u64 150] As.VT)) :=
  (((Below.refl _ _).alloc (Nat.le_refl _) _).alloc (by rw [size_alloc']; omega) _).alloc (by rw [size_alloc', size_alloc']; omega) _
 rw [← hw2] at b2
 have b3 := hid (hb1.out.trans (b2.mono hb1.out.size))
 clear hw2 b2 hb1 hc hh
 go_wp2_with fail
 go_ret
 exact ⟨rfl, b3.out⟩
theorem good_k {t : Tok} (h : GoodT t) : t.k ≠ 0 := by
 rcases h with ⟨h, _⟩ | ⟨h, _⟩ | ⟨h, _⟩ <;> rw [h] <;> decide
end Go.Proofs.YtiogceepjffmkaaGreatDoor.Tk
