/- How long a statement's text is, by what the laws count. -/
import Derived.Test.YtiogceepjffmkaaGreatDoorZTx8
import Derived.Lib.LaidTab
import Derived.Lib.AppendIntMem
import Derived.Test.YtiogceepjffmkaaGreatDoorZEr8
import Derived.Test.YtiogceepjffmkaaGreatDoorZMes
set_option maxHeartbeats 4000000
set_option maxRecDepth 100000
namespace Go.Proofs.YtiogceepjffmkaaGreatDoor.Gd
open Go.RowKit Go.Lib Go.Sort Com Mem YtiogceepjffmkaaGreatDoor.Os Tr Tk
end Go.Proofs.YtiogceepjffmkaaGreatDoor.Gd
set_option maxRecDepth 100000
namespace Go.Proofs.YtiogceepjffmkaaGreatDoor.Kd
open Go.RowKit Tr Gd
def kidsW : St → List (List St)
  | .mk k _ _ bs es => if k = 2 then [bs, es] else if k = 3 then [bs] else []
mutual
def cntW : St → Nat
  | .mk k _ _ bs es => 1 + ((if k = 2 then cntWL bs else if k = 3 then cntWL bs else 0) + (if k = 2 then cntWL es else 0))
def cntWL : List St → Nat
  | [] => 0
  | a :: r => cntW a + cntWL r
end
mutual
def depW : St → Nat
  | .mk k _ _ bs es => 1 + Nat.max (if k = 2 then depWL bs else if k = 3 then depWL bs else 0) (if k = 2 then depWL es else 0)
def depWL : List St → Nat
  | [] => 0
  | a :: r => Nat.max (depW a) (depWL r)
end
theorem cntWL_sum (L : List St) : cntWL L = (L.map cntW).sum := by
  induction L with
  | nil => simp [cntWL]
  | cons a r ih => simp [cntWL, ih]
theorem depWL_mx (L : List St) : depWL L = mx depW L := by
  induction L with
  | nil => simp [depWL, mx]
  | cons a r ih => simp [depWL, mx, ih]
def kdW : Kd St where
  kids := kidsW
  cnt := cntW
  dep := depW
  cnt_eq := fun t => by
    obtain ⟨k, s, e, bs, es⟩ := t
    rw [cntW, cntWL_sum, cntWL_sum]
    unfold kidsW
    by_cases h2 : k = 2
    · simp [h2]
    · by_cases h3 : k = 3
      · simp [h3]
      · simp [h2, h3]
  dep_eq := fun t => by
    obtain ⟨k, s, e, bs, es⟩ := t
    rw [depW, depWL_mx, depWL_mx]
    by_cases h2 : k = 2
    · simp only [kidsW, if_pos h2]
      show 1 + Nat.max (mx depW bs) (mx depW es) = 1 + Nat.max (mx depW bs) (Nat.max (mx depW es) 0)
      rw [show Nat.max (mx depW es) 0 = mx depW es from Nat.max_eq_left (Nat.zero_le _)]
    · by_cases h3 : k = 3
      · simp only [kidsW, if_neg h2, if_pos h3]
        rfl
      · simp only [kidsW, if_neg h2, if_neg h3]
        rfl
  two := fun t => by
    obtain ⟨k, s, e, bs, es⟩ := t
    unfold kidsW
    by_cases h2 : k = 2
    · simp [h2]
    · by_cases h3 : k = 3
      · simp [h3]
      · simp [h2, h3]
theorem cntW_le (t : St) : cntW t ≤ cntSt t := by
  induction t using St.ind with
  | h k s e bs es h1 h2 =>
    have sub : ∀ L : List St, (∀ a ∈ L, cntW a ≤ cntSt a) → cntWL L ≤ Gd.cntL L := fun L h => by
      induction L with
      | nil => simp [cntWL]
      | cons a r ih =>
        have := h a (by simp)
        have := ih fun b hb => h b (by simp [hb])
        simp only [cntWL, Gd.cntL]; omega
    have g1 := sub bs h1
    have g2 := sub es h2
    rw [cntW, cntSt]
    by_cases h2 : k = 2
    · rw [if_pos h2, if_pos h2]; omega
    · rw [if_neg h2, if_neg h2]
      by_cases h3 : k = 3
      · rw [if_pos h3]; omega
      · rw [if_neg h3]; omega
theorem cntL_W (t : St) : kdW.cntL [t] ≤ cntSt t := by
  have := cntW_le t
  rw [Kd.cntL_cons, Kd.cntL_nil]
  show cntW t + 0 ≤ _
  omega
section
variable {τ : Type} {K : Kd τ} {P : LN τ → Prop} {N Dp nodes depth m : Nat} {S : List (LN τ)} {Lf Bl : He τ} {cur : List τ} {ls : List (List τ)}
theorem depL_pos {l : List τ} (h : l ≠ []) : 1 ≤ K.depL l := by
  cases l with
  | nil => exact absurd rfl h
  | cons a r =>
    have h1 := K.dep_pos a
    have h2 : K.dep a ≤ mx K.dep (a :: r) := mx_mem (by simp)
    exact Nat.le_trans h1 h2
theorem ZX.deep (h : ZX K P N Dp nodes depth S Lf m cur ls Bl) : depth + 1 ≤ Dp := by
  rcases h.wit with ⟨t, _, e⟩ | ⟨p, hp, e⟩ | ⟨l, _, e⟩ | ⟨p, hp, e⟩ | e
  · have := K.dep_pos t; omega
  · have := depL_pos (K := K) (h.neL p hp).1; omega
  · omega
  · omega
  · omega
theorem ZX.pad (h : ZX K P N Dp nodes depth S Lf m cur ls Bl) {ls' : List (List τ)} (hc : K.cntLL ls' = K.cntLL ls) (h1 : ∀ l ∈ ls', l ∈ ls ∨ l = []) (h2 : ∀ l ∈ ls, l ∈ ls' ∨ l = []) : ZX K P N Dp nodes depth S Lf m cur ls' Bl := by
  have hd := h.deep
  have h0 : K.depL ([] : List τ) = 0 := rfl
  refine ⟨by rw [hc]; exact h.cnt, h.upC, h.upL, fun l hl => ?_, h.dn, ?_, h.seen, h.now, h.neL, h.neB, h.inL, h.inB, h.inS⟩
  · rcases h1 l hl with h3 | rfl
    · exact h.upK l h3
    · omega
  · rcases h.wit with h3 | h3 | ⟨l, hl, e⟩ | h3
    · exact Or.inl h3
    · exact Or.inr (Or.inl h3)
    · rcases h2 l hl with h4 | rfl
      · exact Or.inr (Or.inr (Or.inl ⟨l, h4, e⟩))
      · exact Or.inr (Or.inr (Or.inr (Or.inr (by omega))))
    · exact Or.inr (Or.inr (Or.inr h3))
end
end Go.Proofs.YtiogceepjffmkaaGreatDoor.Kd
set_option maxRecDepth 100000
namespace Go.Proofs.YtiogceepjffmkaaGreatDoor.Tk
open Go.RowKit Go.Lib Go.Sort Num Com Mem YtiogceepjffmkaaGreatDoor.Os Tr Ik
theorem bl_alloc {w w1 w2 w3 : World} {o : Obj} (h1 : Below w.heap.size w w1) (h2 : Below w1.heap.size w1 w2) (h3 : Below (w2.alloc o).heap.size (w2.alloc o) w3) : Below w.heap.size w w3 := by
  have e := size_alloc' w2 o
  have h4 := ((Below.refl w2.heap.size w2).alloc (Nat.le_refl _) o).trans (h3.mono (by omega))
  have h5 := h2.trans (h4.mono h2.size)
  exact h1.trans (h5.mono h1.size)
theorem bl_set {w w1 w2 w3 : World} {a b : Addr} {x y : Value} (h1 : Below w.heap.size w w1) (h2 : Below w1.heap.size w1 w2) (ha : w1.heap.size ≤ a.block) (hb : w1.heap.size ≤ b.block) (h3 : Below ((w2.setCell a x).setCell b y).heap.size ((w2.setCell a x).setCell b y) w3) : Below w.heap.size w w3 := by
  have h4 := (h2.setCell ha x).setCell hb y
  have h5 := h4.trans (h3.mono h4.size)
  exact h1.trans (h5.mono h1.size)
abbrev Finds (k : Int) (v : Value) (ok : Bool) : Prop := ∀ (b : Nat) (wx : World), KMap wx b fmtsL → (Instr.lookup MFT (.map (some b)) (.int .i64 k) true).run Tryz.prog wx = .ok (.tuple #[v, .bool ok]) wx
theorem level_by (k n : Int) (s : List UInt8) (A : Option Addr) (l c : Nat) (w : World) (F G : FuncId) (m : Int) (hcf : ∀ args w, (callFunc F args).run Tryz.prog w = .ok (.enter F args) w) (hl : Finds k (fn2 F G) true)
    (hF : ∀ w, Calls Tryz.prog F #[nv k n s A l c] w fun e w' => e = .returned (.int .i64 m) ∧ Below w.heap.size w w') : Calls Tryz.prog 217 #[nv k n s A l c] w fun e w' => e = .returned (.int .i64 m) ∧ Below w.heap.size w w' := by
  have hb1 := hid (box_below w (.cells #[.int .i64 k, .int .i64 n, sv s, .slice A l c] 58))
  have hblk := hid (box_blk w k n s A l c 58)
  have hfm := hid (fun w => formatters_any w)
  have hF := hid hF
  have hl := hid hl
  go_enter Tryz.func217, Tryz.ntmps217
  go_wp2_with fail
  generalize (w.alloc (.cells #[.int .i64 k, .int .i64 n, sv s, .slice A l c] 58)) = w1 at *
  obtain ⟨k0, k1, k2, k3⟩ := four hblk.out
  have d1 : w.heap.size ≠ w1.heap.size := by have := hblk.out.lt; omega
  have d1' : w1.heap.size ≠ w.heap.size := by have := hblk.out.lt; omega
  go_region_held3 (fun w' => w'.cell? ⟨w.heap.size, 0, none⟩ = some (.int .i64 k) ∧ w'.cell? ⟨w.heap.size, 1, none⟩ = some (.int .i64 n) ∧ w'.cell? ⟨w.heap.size, 2, none⟩ = some (sv s) ∧ w'.cell? ⟨w.heap.size, 3, none⟩ = some (.slice A l c)) (first | (exact q1) | go_keep)
    (first
     | (go_at_call 180; refine (hfm.out _).mono ?_; rintro e w2 ⟨rfl, hk, hb⟩; have hlk := hl.out w1.heap.size w2 hk; have hlk2 := fun o => hl.out w1.heap.size (w2.alloc o) (KMap.alloc hk o); have B2 := hid ((Below.refl w1.heap.size w1).drew.trans hb); have bx := hid (hblk.out.below B2.out hblk.out.lt); have d2 : w.heap.size ≠ w2.heap.size := (by have := B2.out.size; have := hblk.out.lt; omega); have q1 := four bx.out; clear hb)
     | (go_at_call 180; refine (hfm.out _).mono ?_; rintro e w2 ⟨rfl, hk, hb⟩; have hk' : KMap w2 (w1.heap.size + 1) fmtsL := (size_alloc' w1 (.cells #[.nilFunc, .nilFunc] FMT)) ▸ hk; have hlk := hl.out _ w2 hk'; have B2 := hid ((((Below.refl w1.heap.size w1).alloc (Nat.le_refl _) (.cells #[.nilFunc, .nilFunc] FMT)).drew).trans (hb.mono (by show _ ≤ (w1.alloc _).heap.size; rw [size_alloc']; omega))); have bx := hid (hblk.out.below B2.out hblk.out.lt); have nb := hid ((Blk.new w1 FMT [.nilFunc, .nilFunc]).below ((Below.refl _ _).drew.trans hb) (by show _ < (w1.alloc _).heap.size; rw [size_alloc']; omega)); have d2 : w.heap.size ≠ w2.heap.size := (by have := B2.out.size; have := hblk.out.lt; omega); have q1 := four bx.out; have n0 := nb.out.cell 0; have n1 := nb.out.cell 1; have nf := nb.out.frozen; clear hb))
  all_goals
    obtain ⟨q10, q11, q12, q13⟩ := q1
    replace hk := hid hk
    go_wp2_with fail
    refine (hF.out _).mono ?_
    rintro e w3 ⟨rfl, hb3⟩
    have hB : Below w.heap.size w w3 := by first | exact bl_alloc hb1.out B2.out hb3 | exact bl_set hb1.out B2.out (Nat.le_refl _) (Nat.le_refl _) hb3
    have hB := hid hB
    clear hb3 q10 q11 q12 q13
    go_wp2_with fail
    go_ret
    exact ⟨rfl, hB.out⟩
theorem level_none (k n : Int) (s : List UInt8) (A : Option Addr) (l c : Nat) (w : World) (hl : Finds k (.agg #[.nilFunc, .nilFunc]) false) : Calls Tryz.prog 217 #[nv k n s A l c] w fun e w' => e = .returned (.int .i64 7) ∧ Below w.heap.size w w' := by
  have hb1 := hid (box_below w (.cells #[.int .i64 k, .int .i64 n, sv s, .slice A l c] 58))
  have hblk := hid (box_blk w k n s A l c 58)
  have hfm := hid (fun w => formatters_any w)
  have hl := hid hl
  go_enter Tryz.func217, Tryz.ntmps217
  go_wp2_with fail
  generalize (w.alloc (.cells #[.int .i64 k, .int .i64 n, sv s, .slice A l c] 58)) = w1 at *
  obtain ⟨k0, k1, k2, k3⟩ := four hblk.out
  have d1 : w.heap.size ≠ w1.heap.size := by have := hblk.out.lt; omega
  have d1' : w1.heap.size ≠ w.heap.size := by have := hblk.out.lt; omega
  go_region_held3 (fun w' => w'.cell? ⟨w.heap.size, 0, none⟩ = some (.int .i64 k)) (first | (exact q1) | go_keep)
    (first
     | (go_at_call 180; refine (hfm.out _).mono ?_; rintro e w2 ⟨rfl, hk, hb⟩; have hlk := hl.out w1.heap.size w2 hk; have hlk2 := fun o => hl.out w1.heap.size (w2.alloc o) (KMap.alloc hk o); have B2 := hid ((Below.refl w1.heap.size w1).drew.trans hb); have bx := hid (hblk.out.below B2.out hblk.out.lt); have d2 : w.heap.size ≠ w2.heap.size := (by have := B2.out.size; have := hblk.out.lt; omega); have q1 := (four bx.out).1; clear hb)
     | (go_at_call 180; refine (hfm.out _).mono ?_; rintro e w2 ⟨rfl, hk, hb⟩; have hk' : KMap w2 (w1.heap.size + 1) fmtsL := (size_alloc' w1 (.cells #[.nilFunc, .nilFunc] FMT)) ▸ hk; have hlk := hl.out _ w2 hk'; have B2 := hid ((((Below.refl w1.heap.size w1).alloc (Nat.le_refl _) (.cells #[.nilFunc, .nilFunc] FMT)).drew).trans (hb.mono (by show _ ≤ (w1.alloc _).heap.size; rw [size_alloc']; omega))); have bx := hid (hblk.out.below B2.out hblk.out.lt); have nb := hid ((Blk.new w1 FMT [.nilFunc, .nilFunc]).below ((Below.refl _ _).drew.trans hb) (by show _ < (w1.alloc _).heap.size; rw [size_alloc']; omega)); have d2 : w.heap.size ≠ w2.heap.size := (by have := B2.out.size; have := hblk.out.lt; omega); have q1 := (four bx.out).1; have n0 := nb.out.cell 0; have n1 := nb.out.cell 1; have nf := nb.out.frozen; clear hb))
  all_goals
    replace hk := hid hk
    go_wp2_with fail
    go_ret
    first | exact ⟨rfl, bl_alloc hb1.out B2.out (Below.refl _ _)⟩ | exact ⟨rfl, bl_set hb1.out B2.out (Nat.le_refl _) (Nat.le_refl _) (Below.refl _ _)⟩
theorem ilevel_any (k n : Int) (s : List UInt8) (A : Option Addr) (l c : Nat) (w : World) : Calls Tryz.prog 217 #[nv k n s A l c] w fun e w' => e = .returned (.int .i64 (lvl k n : Nat)) ∧ Below w.heap.size w w' := by
  by_cases h1 : k = 1
  · subst h1; exact level_by 1 n s A l c w _ _ _ (fun _ _ => by kernel_rfl) (fun b wx h => (look1 h).1) (lv_atom 1 n s A l c)
  by_cases h2 : k = 2
  · subst h2; exact level_by 2 n s A l c w _ _ _ (fun _ _ => by kernel_rfl) (fun b wx h => (look2 h).1) (lv_atom 2 n s A l c)
  by_cases h3 : k = 3
  · subst h3; exact level_by 3 n s A l c w _ _ _ (fun _ _ => by kernel_rfl) (fun b wx h => (look3 h).1) (lv_op n 3 s A l c)
  by_cases h4 : k = 4
  · subst h4; exact level_by 4 n s A l c w _ _ _ (fun _ _ => by kernel_rfl) (fun b wx h => (look4 h).1) (lv_not 4 n s A l c)
  have hf : lvl k n = 7 := lvl_oth h3 h4
  rw [hf]
  exact level_none k n s A l c w fun b wx h => lookN h h1 h2 h3 h4
end Go.Proofs.YtiogceepjffmkaaGreatDoor.Tk
set_option maxRecDepth 100000
namespace Go.Proofs.YtiogceepjffmkaaGreatDoor.L1b
open Go.RowKit Go.Lib Num Com C1
def Pow (w : World) : Prop := Lib.TabIs Tryz.prog w "internal/strconv.uint64pow10" .u64 Lib.pow10Tab
theorem Pow.below {w w' : World} (h : Pow w) (hb : Below w.heap.size w w') : Pow w' := by
  exact var_below h hb
theorem met_tail {P : Program} {W : World} {x : String × DataW Unit} {r : List (String × DataW Unit)} (h : laidMet P (x :: r) W) : laidMet P r W := by
  obtain ⟨n, d⟩ := x
  obtain ⟨ps, ⟨g, t, cs, fuel, p, q, _, _, _, _, hr, rfl⟩, hnd, hrows⟩ := h
  have hs : q.Sublist (MemPlace.row ⟨g, 0, none⟩ cs.size ++ p ++ q) := List.sublist_append_right _ _
  exact ⟨q, hr, hnd.sublist hs, fun b off hp => hrows b off (hs.subset hp)⟩
theorem implFormat (n : Int) (h0 : -9223372036854775808 ≤ n) (h1 : n ≤ 9223372036854775807) (w : World) (hp : Pow w) : Calls Tryz.prog 215 #[.int .i64 n] w fun e w' => e = .returned (.string ⟨(itoa n).toArray⟩) ∧ Below w.heap.size w w' := by
  have hc := hid (Tryz.strconv_Itoa n h0 h1 w hp)
  clear hp
  go_enter Tryz.func215, Tryz.ntmps215
  go_wp2_with fail
  refine hc.out.mono ?_
  rintro e w' ⟨rfl, k, os, rfl⟩
  go_wp2_with fail
  go_ret
  exact ⟨rfl, below_grow _ _ (Nat.le_refl _) _ _⟩
end Go.Proofs.YtiogceepjffmkaaGreatDoor.L1b
set_option maxRecDepth 100000
namespace Go.Proofs.YtiogceepjffmkaaGreatDoor.Sr
open Go.RowKit Go.Lib Com Mem YtiogceepjffmkaaGreatDoor.Os Tr Pl Gd
inductive StR (W : World) (B : Nat) : Value → St → Prop where
  | asg {ek en : Int} {es s : List UInt8} {A : Option Addr} {l c : Nat} {e : T} (hx : Ex W B (nv ek en es A l c) e) :
      StR W B (.iface 199 (.agg #[.int .i64 ek, .int .i64 en, sv es, .slice A l c, sv s])) (.mk 1 s e [] [])
  | chc {ek en : Int} {es : List UInt8} {A : Option Addr} {l c : Nat} {e : T} (hx : Ex W B (nv ek en es A l c) e) {bs ss : List St} (Ab As : Option Addr) (cb cs : Nat) (rb rs : Nat → Value) (hlb : bs.length ≤ maxI) (hls : ss.length ≤ maxI)
      (hb : ∀ j, j < bs.length → ∃ ad, Ab = some ad ∧ ad.block < B ∧ W.cell? (ad.add j) = some (rb j)) (kb : ∀ j t, bs[j]? = some t → StR W B (rb j) t)
      (hs : ∀ j, j < ss.length → ∃ ad, As = some ad ∧ ad.block < B ∧ W.cell? (ad.add j) = some (rs j)) (ks : ∀ j t, ss[j]? = some t → StR W B (rs j) t) :
      StR W B (.iface 201 (.agg #[.int .i64 ek, .int .i64 en, sv es, .slice A l c, .slice Ab bs.length cb, .slice As ss.length cs])) (.mk 2 [] e bs ss)
  | lop {ek en : Int} {es : List UInt8} {A : Option Addr} {l c : Nat} {e : T} (hx : Ex W B (nv ek en es A l c) e) {bs : List St} (Ab : Option Addr) (cb : Nat) (rb : Nat → Value) (hlb : bs.length ≤ maxI)
      (hb : ∀ j, j < bs.length → ∃ ad, Ab = some ad ∧ ad.block < B ∧ W.cell? (ad.add j) = some (rb j)) (kb : ∀ j t, bs[j]? = some t → StR W B (rb j) t) :
      StR W B (.iface 203 (.agg #[.int .i64 ek, .int .i64 en, sv es, .slice A l c, .slice Ab bs.length cb])) (.mk 3 [] e bs [])
  | emi {ek en : Int} {es : List UInt8} {A : Option Addr} {l c : Nat} {e : T} (hx : Ex W B (nv ek en es A l c) e) :
      StR W B (.iface 205 (.agg #[.int .i64 ek, .int .i64 en, sv es, .slice A l c])) (.mk 4 [] e [] [])
structure RowR (W : World) (B : Nat) (A : Option Addr) (L : List St) (rows : Nat → Value) : Prop where
  cell : ∀ j, j < L.length → ∃ ad, A = some ad ∧ ad.block < B ∧ W.cell? (ad.add j) = some (rows j)
  kid : ∀ j t, L[j]? = some t → StR W B (rows j) t
theorem StR.cry {w w' : World} {B B' : Nat} {X : Value} {t : St} (h : StR w B X t) (hc : Cry w w' B) (hB : B ≤ B') : StR w' B' X t := by
  induction h with
  | asg hx => exact .asg (Ex.cry hx hc hB)
  | chc hx Ab As cb cs rb rs hlb hls hb kb hs ks ihb ihs =>
    refine .chc (Ex.cry hx hc hB) Ab As cb cs rb rs hlb hls (fun j hj => ?_) ihb (fun j hj => ?_) ihs
    · obtain ⟨ad, e, h1, h2⟩ := hb j hj
      exact ⟨ad, e, by omega, hc _ _ (by rw [add_block]; exact h1) h2⟩
    · obtain ⟨ad, e, h1, h2⟩ := hs j hj
      exact ⟨ad, e, by omega, hc _ _ (by rw [add_block]; exact h1) h2⟩
  | lop hx Ab cb rb hlb hb kb ihb =>
    refine .lop (Ex.cry hx hc hB) Ab cb rb hlb (fun j hj => ?_) ihb
    obtain ⟨ad, e, h1, h2⟩ := hb j hj
    exact ⟨ad, e, by omega, hc _ _ (by rw [add_block]; exact h1) h2⟩
  | emi hx => exact .emi (Ex.cry hx hc hB)
theorem RowR.cry {w w' : World} {B B' : Nat} {A : Option Addr} {L : List St} {rows : Nat → Value} (h : RowR w B A L rows) (hc : Cry w w' B) (hB : B ≤ B') : RowR w' B' A L rows :=
  ⟨fun j hj => by
    obtain ⟨ad, e, h1, h2⟩ := h.cell j hj
    exact ⟨ad, e, by omega, hc _ _ (by rw [add_block]; exact h1) h2⟩, fun j t ht => (h.kid j t ht).cry hc hB⟩
theorem StR.form {W : World} {B : Nat} {X : Value} {t : St} (h : StR W B X t) : ∃ ty y, X = .iface ty y := by cases h <;> exact ⟨_, _, rfl⟩
def plz (w : World) (S : Nat → Bool) : World := { w with heap := w.heap.mapIdx fun k o => if S k then .cells #[] 0 (7, 7) else plo o }
theorem plz_at {w : World} {S : Nat → Bool} {k : Nat} (h : S k = false) : (plz w S).heap[k]? = (pln w).heap[k]? := by
  rw [pln_at]
  unfold plz
  simp only [Array.getElem?_mapIdx, h, Bool.false_eq_true, if_false]
theorem plz_cell {w : World} {S : Nat → Bool} {p : Addr} {v : Value} (h : (plz w S).cell? p = some v) : S p.block = false ∧ (pln w).cell? p = some v := by
  cases hS : S p.block with
  | false =>
    refine ⟨rfl, ?_⟩
    unfold World.cell? at *
    rw [plz_at hS] at h; exact h
  | true =>
    exfalso
    unfold World.cell? plz at h
    simp only [Array.getElem?_mapIdx, hS, if_true] at h
    cases hb : w.heap[p.block]? with
    | none => rw [hb] at h; simp at h
    | some o => rw [hb] at h; simp at h
theorem plz_in {w : World} {S : Nat → Bool} {p : Addr} {v : Value} (hS : S p.block = false) (h : (pln w).cell? p = some v) : (plz w S).cell? p = some v := by
  unfold World.cell? at *
  rw [plz_at hS]; exact h
theorem cry_z {w w' : World} {S S' : Nat → Bool} {B : Nat} (hc : ∀ k, k < B → S k = false → S' k = false ∧ w'.heap[k]? = w.heap[k]?) : Cry (plz w S) (plz w' S') B := fun p v hp hv => by
  obtain ⟨h1, h2⟩ := plz_cell hv
  obtain ⟨h3, h4⟩ := hc _ hp h1
  refine plz_in h3 ?_
  unfold World.cell? at *
  rw [pln_keep h4]; exact h2
theorem cry_zp (w : World) (S : Nat → Bool) (B : Nat) : Cry (plz w S) (pln w) B := fun _ _ _ hv => (plz_cell hv).2
theorem cry_pz {w w' : World} {S : Nat → Bool} {B : Nat} (hc : ∀ k, k < B → S k = false ∧ w'.heap[k]? = w.heap[k]?) : Cry (pln w) (plz w' S) B := fun p v hp hv => by
  obtain ⟨h3, h4⟩ := hc _ hp
  refine plz_in h3 ?_
  unfold World.cell? at *
  rw [pln_keep h4]; exact hv
theorem cry_pb {w w' : World} {B : Nat} (h : Below B w w') : Cry (pln w) (pln w') B := Cry.of_below (pln_below h)
theorem StR.go {w w' : World} {X : Value} {t : St} (h : StR (pln w) w.heap.size X t) (hb : Below w.heap.size w w') : StR (pln w') w'.heap.size X t := h.cry (cry_pb hb) hb.size
theorem RowR.go {w w' : World} {A : Option Addr} {L : List St} {rows : Nat → Value} (h : RowR (pln w) w.heap.size A L rows) (hb : Below w.heap.size w w') : RowR (pln w') w'.heap.size A L rows := h.cry (cry_pb hb) hb.size
def ivb (lo hi : Nat) : Nat → Bool := fun k => decide (lo ≤ k) && decide (k < hi)
theorem ivb_no {lo hi k : Nat} (h : k < lo ∨ hi ≤ k) : ivb lo hi k = false := by
  unfold ivb
  rcases h with h | h
  · rw [decide_eq_false (by omega), Bool.false_and]
  · rw [decide_eq_false (show ¬ k < hi by omega), Bool.and_false]
theorem ivb_of {lo hi k : Nat} (h : ivb lo hi k = false) : k < lo ∨ hi ≤ k := by
  unfold ivb at h
  by_cases h1 : lo ≤ k
  · rw [decide_eq_true h1, Bool.true_and] at h
    exact Or.inr (by have := of_decide_eq_false h; omega)
  · exact Or.inl (by omega)
def wow (S : Nat → Bool) (o : Option Nat) : Nat → Bool := fun k => S k || decide (o = some k)
theorem wow_of {S : Nat → Bool} {o : Option Nat} {k : Nat} (h : wow S o k = false) : S k = false ∧ o ≠ some k := by
  unfold wow at h
  rw [Bool.or_eq_false_iff] at h
  exact ⟨h.1, of_decide_eq_false h.2⟩
theorem wow_no {S : Nat → Bool} {o : Option Nat} {k : Nat} (h1 : S k = false) (h2 : o ≠ some k) : wow S o k = false := by
  unfold wow
  rw [h1, decide_eq_false h2]; rfl
abbrev IT : TypeId := 143
theorem infoI : (Tryz.prog.info? IT).map (fun i => (i.zero, i.size, i.bytes)) = some (some .nilIface, 1, 16) := by kernel_rfl
structure GrowR (w : World) (lo : Nat) (S : Nat → Bool) (v : Value) (L : List St) : Prop where
  row : ∃ xs : List Value, w.ownsRow lo IT 1 v L.length xs ∧ ∀ (j : Nat) (t : St), L[j]? = some t → ∃ X, xs[j]? = some X ∧ StR (plz w (wow S v.ownBlock)) w.heap.size X t
section
variable {w w' : World} {lo : Nat} {S : Nat → Bool} {v : Value} {L : List St}
theorem GrowR.nil (w : World) (lo : Nat) (S : Nat → Bool) : GrowR w lo S (.slice none 0 0) [] := ⟨[], World.ownsRow_nil _ _ _ _, fun j t ht => by simp at ht⟩
theorem GrowR.below (h : GrowR w lo S v L) (hb : Below w.heap.size w w') : GrowR w' lo S v L := by
  obtain ⟨xs, ho, hk⟩ := h
  refine ⟨xs, own_keep ho fun b h => hb.block b (own_ge ho h).2, fun j t ht => ?_⟩
  obtain ⟨X, h1, h2⟩ := hk j t ht
  exact ⟨X, h1, h2.cry (cry_z fun k hk hS => ⟨hS, hb.block k hk⟩) hb.size⟩
theorem GrowR.own (h : GrowR w lo S v L) {b : Nat} (hb : v.ownBlock = some b) : lo ≤ b ∧ b < w.heap.size := by
  obtain ⟨xs, ho, hk⟩ := h
  exact own_ge ho hb
theorem GrowR.rd (h : GrowR w lo S v L) (hS : ∀ k, lo ≤ k → S k = false) : ∃ A c rows, v = .slice A L.length c ∧ RowR (plz w S) w.heap.size A L rows ∧ L.length ≤ maxI := by
  obtain ⟨xs, ho, hk⟩ := h
  rcases ho with ⟨hx, ⟨rfl, hz⟩ | ⟨g, cap, cur, rfl, hg, hblk, hnc, hcm, hcs, ht⟩⟩
  · have : L = [] := List.eq_nil_of_length_eq_zero hz
    subst this
    exact ⟨none, 0, fun _ => .nilIface, rfl, ⟨fun j hj => by simp at hj, fun j t ht => by simp at ht⟩, by simp⟩
  · have hB : Blk w g IT cur.toList := by unfold Blk; simpa using hblk
    refine ⟨_, _, fun j => xs.getD j .nilIface, rfl, ⟨fun j hj => ?_, fun j t hjt => ?_⟩, by unfold maxLen at hcm; unfold maxI; omega⟩
    · refine ⟨_, rfl, hB.lt, ?_⟩
      refine plz_in (by rw [add_block]; exact hS g hg) ?_
      rw [pln_in (by rw [add_block]; exact Blk.pl hB), add_zero, hB.cell]
      have hxl : xs.length = L.length := by rw [hx]; omega
      have e1 : xs[j]? = some (xs.getD j .nilIface) := by rw [List.getD_eq_getElem?_getD, List.getElem?_eq_getElem (by omega)]; rfl
      rw [← e1, ← ht, List.getElem?_take, if_pos (by omega)]
    · obtain ⟨X, h1, h2⟩ := hk j t hjt
      have e1 : xs.getD j .nilIface = X := by rw [List.getD_eq_getElem?_getD, h1]; rfl
      show StR (plz w S) w.heap.size (xs.getD j .nilIface) t
      rw [e1]
      exact h2.cry (cry_z fun k _ hk => ⟨(wow_of hk).1, rfl⟩) (Nat.le_refl _)
theorem GrowR.app (hG : GrowR w lo S v L) (hbs : lo ≤ w.heap.size) (X : Value) (t : St) (hX : X.oneCell' = true) (hr : StR (plz w (wow S v.ownBlock)) w.heap.size X t) (hl : L.length < 1000000000)
    {o : Oper} {a : Act} {ops : Array Oper} {rest : List Oper} {Q : Exit → Act → World → Prop} (hgd : o.guard = none) (s x : Operand) (ho : o.op = .call { callee := .builtin .append, args := #[s, x], argTypes := #[85, 85] }) (hs : a.eval s = v)
    (g : Nat) (hg : g = w.heap.size) (hx : a.eval x = .slice (some ⟨g, 0, none⟩) 1 1)
    (hK : ∀ v' w', GrowR w' lo S v' (L ++ [t]) → w.grownBy w' v.ownBlock → wpList Tryz.prog ops Q rest (a.put o.dst v') w') :
    wpList Tryz.prog ops Q (o :: rest) a (w.alloc (.cells #[X] IT)) := by
  subst hg
  obtain ⟨i0, hi, hz0, hz1, hz2⟩ := info_parts infoI
  have hb1 := box_below w (.cells #[X] IT)
  have hG1 := hG.below hb1
  obtain ⟨xs, how, hk⟩ := hG1
  have hxl : xs.length = L.length := by have := how.1; omega
  refine wpList_append_own_at (P := Tryz.prog) _ hgd s x 85 ho lo IT i0 .nilIface 1 16 Tryz.underlying85 hi hz0 hz1 hz2 rfl (by decide) v L.length xs hs how ⟨w.heap.size, 0, none⟩ 1 1 [X] hx (by simp)
    (fun j u hu => ?_) (fun u hu => by rw [List.mem_singleton] at hu; subst hu; exact hX) (by unfold maxLen; omega) (by omega) (by rw [size_alloc']; omega) ?_
  · rw [add_zero, (Blk.new w IT [X]).cell]; exact hu
  intro v' w' hown hgw _ hat
  refine hK v' w' ⟨xs ++ [X], by rw [List.length_append]; exact hown, fun j e he => ?_⟩ (gb_trans (World.grownBy_alloc w _ _) hgw)
  have hcry : Cry (plz (w.alloc (.cells #[X] IT)) (wow S v.ownBlock)) (plz w' (wow S v'.ownBlock)) (w.alloc (.cells #[X] IT)).heap.size := cry_z fun k hk hS => by
    obtain ⟨h1, h2⟩ := wow_of hS
    refine ⟨wow_no h1 ?_, hgw.block k hk fun e => h2 e.symm⟩
    rcases hat with e | e
    · rw [e]; exact h2
    · rw [e]
      intro h3
      have h4 : (w.alloc (.cells #[X] IT)).heap.size = k := Option.some.inj h3
      omega
  by_cases hjl : j < L.length
  · rw [List.getElem?_append_left hjl] at he
    obtain ⟨Y, h1, h2⟩ := hk j e he
    exact ⟨Y, by rw [List.getElem?_append_left (by omega)]; exact h1, h2.cry hcry hgw.size⟩
  · have hj2 := lt_of_get he
    rw [List.length_append, List.length_singleton] at hj2
    obtain rfl : j = L.length := by omega
    rw [List.getElem?_append_right (Nat.le_refl _), Nat.sub_self] at he
    cases he
    refine ⟨X, by rw [List.getElem?_append_right (by omega), hxl, Nat.sub_self]; rfl, ?_⟩
    exact (hr.cry (cry_z fun k hk hS => ⟨hS, hb1.block k hk⟩) hb1.size).cry hcry hgw.size
end
end Go.Proofs.YtiogceepjffmkaaGreatDoor.Sr
set_option maxRecDepth 100000
namespace Go.Proofs.YtiogceepjffmkaaGreatDoor.Gx
open Go.RowKit Go.Lib Go.Sort Com Mem Tr Im Ag Pl Kd
end Go.Proofs.YtiogceepjffmkaaGreatDoor.Gx
