/- Statements as such trees. -/
import Derived.Test.YtnmomlaimffonaaGreatZKd
import Derived.Test.YtnmomlaimffonaaGreatZS8a
import Derived.Test.YtnmomlaimffonaaGreatZS8f
set_option maxHeartbeats 1000000
set_option maxRecDepth 100000
namespace Go.Proofs.YtnmomlaimffonaaGreat.Kd
open Go.RowKit Tr Gd
def kidsS : St → List (List St)
  | .mk _ _ _ bs es => [bs, es]
def rootS : St → St → Bool
  | .mk k s e _ _, .mk k' s' e' _ _ => (k == k') && ((s == s') && eqT e e')
theorem cntL_sum (L : List St) : Gd.cntL L = (L.map cntSt).sum := by
  induction L with
  | nil => simp [Gd.cntL]
  | cons a r ih => simp [Gd.cntL, ih]
def depS (t : St) : Nat := 1 + depSt t
theorem depL_mx {L : List St} (h : L ≠ []) : Gd.depL L = mx depS L := by
  induction L with
  | nil => exact absurd rfl h
  | cons a r ih =>
    simp only [Gd.depL, mx]
    by_cases hr : r = []
    · subst hr; simp [Gd.depL, mx, depS]
    · rw [ih hr]; rfl
theorem sameSL_eqLs : ∀ L L' : List St, sameSL L L' = eqLs sameSt L L'
  | [], [] => by rw [sameSL]; rfl
  | a :: r, b :: q => by rw [sameSL, eqLs, sameSL_eqLs r q]
  | [], _ :: _ => by rw [sameSL]; rfl
  | _ :: _, [] => by rw [sameSL]; rfl
def kqS : Kq St where
  kids := kidsS
  cnt := cntSt
  dep := depS
  cnt_eq := fun t => by
    obtain ⟨k, s, e, bs, es⟩ := t
    rw [cntSt, cntL_sum, cntL_sum]
    simp [kidsS]; omega
  dep_eq := fun t => by
    obtain ⟨k, s, e, bs, es⟩ := t
    show 1 + depSt _ = 1 + Nat.max (mx depS bs) (Nat.max (mx depS es) 0)
    rw [depSt, show Nat.max (mx depS es) 0 = mx depS es from Nat.max_eq_left (Nat.zero_le _)]
    have h : ∀ L : List St, (if L.isEmpty = true then 0 else Gd.depL L) = mx depS L := fun L => by
      cases L with
      | nil => rfl
      | cons a r => rw [if_neg (by simp), depL_mx (by simp)]
    rw [h, h]
  two := fun t => by obtain ⟨k, s, e, bs, es⟩ := t; simp [kidsS]
  root := rootS
  eq := sameSt
  eq_eq := fun a b => by
    obtain ⟨k, s, e, bs, es⟩ := a
    obtain ⟨k', s', e', bs', es'⟩ := b
    rw [sameSt_mk, sameSL_eqLs, sameSL_eqLs]
    simp [kidsS, rootS, eqLs, Bool.and_assoc]
  kids_len := fun a b => by cases a; cases b; rfl
abbrev kdS : Kd St := kqS.toKd
theorem cntL_S (L : List St) : kdS.cntL L = Gd.cntL L := (cntL_sum L).symm
end Go.Proofs.YtnmomlaimffonaaGreat.Kd
set_option maxRecDepth 100000
namespace Go.Proofs.YtnmomlaimffonaaGreat.Gs
open Go.RowKit Go.Lib Go.Sort Com Mem Tr Im Ag Pl Kd
def RdN (W : World) (B : Nat) (cs : List Value) (t : Gd.St) : Prop := Gd.Rd8 W B cs t.d
def LdC (W : World) (a : Addr) (cs : List Value) : Prop := cs.length = 8 ∧ Gd.LdN W a cs
structure LAt (W : World) (B : Nat) (l : LN Gd.St) (rows : Nat → List Value) : Prop where
  cell : ∀ j, j < l.ks.length → ∃ ad, l.A = some ad ∧ ad.block < B ∧ LdC W (ad.add (j * 8)) (rows j)
  kid : ∀ j t, l.ks[j]? = some t → RdN W B (rows j) t
  len : l.ks.length ≤ 9223372036854775807
def LA (W : World) (B : Nat) (l : LN Gd.St) : Prop := ∃ rows, LAt W B l rows
theorem ldC_keep {W W' : World} {a : Addr} {cs : List Value} (h : LdC W a cs) (hk : ∀ p : Addr, p.block = a.block → W'.cell? p = W.cell? p) : LdC W' a cs :=
  ⟨h.1, h.2.keep hk⟩
theorem ldC_out {W : World} {a : Addr} {cs : List Value} (h : LdC (pln W) a cs) : LdC W a cs ∧ IsPl W a.block :=
  ⟨⟨h.1, fun i u hu => (pln_cell (h.2 i u hu)).1⟩, by
    have hl := h.1
    have h0 : cs[0]? = some (cs[0]'(by omega)) := List.getElem?_eq_getElem (by omega)
    have := (pln_cell (h.2 0 _ h0)).2
    rw [add_block] at this; exact this⟩
theorem ldC_cells {W : World} {a : Addr} {cs : List Value} (h : LdC W a cs) : ∃ v0 v1 v2 v3 v4 v5 v6 v7, cs = [v0, v1, v2, v3, v4, v5, v6, v7] ∧ W.cell? a = some v0 ∧ W.cell? ⟨a.block, a.off + 1, none⟩ = some v1 ∧ W.cell? ⟨a.block, a.off + 2, none⟩ = some v2 ∧ W.cell? ⟨a.block, a.off + 3, none⟩ = some v3 ∧
    W.cell? ⟨a.block, a.off + 4, none⟩ = some v4 ∧ W.cell? ⟨a.block, a.off + 5, none⟩ = some v5 ∧ W.cell? ⟨a.block, a.off + 6, none⟩ = some v6 ∧ W.cell? ⟨a.block, a.off + 7, none⟩ = some v7 := by
  obtain ⟨hl, h⟩ := h
  match cs, hl with
  | [v0, v1, v2, v3, v4, v5, v6, v7], _ => exact ⟨v0, v1, v2, v3, v4, v5, v6, v7, rfl, Gd.ld8 h⟩
theorem ldC_at {W : World} {a : Addr} {v0 v1 v2 v3 v4 v5 v6 v7 : Value} (h : LdC W a [v0, v1, v2, v3, v4, v5, v6, v7]) : W.cell? a = some v0 ∧ W.cell? ⟨a.block, a.off + 1, none⟩ = some v1 ∧ W.cell? ⟨a.block, a.off + 2, none⟩ = some v2 ∧ W.cell? ⟨a.block, a.off + 3, none⟩ = some v3 ∧
    W.cell? ⟨a.block, a.off + 4, none⟩ = some v4 ∧ W.cell? ⟨a.block, a.off + 5, none⟩ = some v5 ∧ W.cell? ⟨a.block, a.off + 6, none⟩ = some v6 ∧ W.cell? ⟨a.block, a.off + 7, none⟩ = some v7 := Gd.ld8 h.2
theorem ldC_fun {W : World} {a : Addr} {cs cs' : List Value} (h : LdC W a cs) (h' : LdC W a cs') : cs = cs' := by
  apply List.ext_getElem (h.1.trans h'.1.symm)
  intro i h1 h2
  have g1 := h.2 i _ (List.getElem?_eq_getElem h1)
  have g2 := h'.2 i _ (List.getElem?_eq_getElem h2)
  rw [g1] at g2
  exact Option.some.inj g2
theorem rdN_fun {W : World} {B B' : Nat} {cs : List Value} {t t' : Gd.St} (h : RdN W B cs t) (h' : RdN W B' cs t') : t = t' := by
  unfold RdN at h h'
  induction t using Gd.St.ind generalizing cs t' with
  | h k s e bs es ih1 ih2 =>
    obtain ⟨k', s', e', bs', es'⟩ := t'
    rw [Gd.St.d_mk] at h h'
    obtain ⟨ek, en, en', A, l, c, Bb, cb, C, cc, rb, rc, e8, _, hx, hb, _, hc, _⟩ := Gd.st_inv h
    obtain ⟨ek2, en2, en2', A2, l2, c2, Bb2, cb2, C2, cc2, rb2, rc2, e82, _, hx2, hb2, _, hc2, _⟩ := Gd.st_inv h'
    rw [e8] at e82
    unfold Gd.sc at e82
    injection e82 with q0 e82; injection e82 with q1 e82; injection e82 with q2 e82; injection e82 with q3 e82
    injection e82 with q4 e82; injection e82 with q5 e82; injection e82 with q6 e82; injection e82 with q7 _
    injection q0 with _ q0; injection q2 with _ q2; injection q3 with _ q3
    have q1 := sv_inj q1
    have q4 := sv_inj q4
    injection q5 with qA ql qc; injection q6 with qB qbl _; injection q7 with qC qcl _
    subst q0; subst q1; subst q2; subst q3; subst q4; subst qA; subst ql; subst qc; subst qB; subst qC
    have heq : e = e' := ex_fun hx hx2
    subst heq
    have sub : ∀ (x x' : List Gd.St) (A : Option Addr) (r r' : Nat → List Value), Gd.Row W B 1 A (Gd.dl x) r → Gd.Row W B' 1 A (Gd.dl x') r' → (Gd.dl x).length = (Gd.dl x').length →
        (∀ a ∈ x, ∀ {cs : List Value} {t' : Gd.St}, Gd.Rd8 W B cs a.d → Gd.Rd8 W B' cs t'.d → a = t') → x = x' := fun x x' A r r' h1 h2 hl hf => by
      have hl' : x.length = x'.length := by simpa [Gd.dl] using hl
      apply List.ext_getElem hl'
      intro j g1 g2
      obtain ⟨hr1, ad, ea, _, hld⟩ := h1.cell j (by simpa [Gd.dl] using g1)
      obtain ⟨hr2, ad', ea', _, hld'⟩ := h2.cell j (by simpa [Gd.dl] using g2)
      rw [ea] at ea'
      cases ea'
      have hcs : r j = r' j := ldC_fun ⟨hr1, hld⟩ ⟨hr2, hld'⟩
      refine hf x[j] (List.getElem_mem _) (h1.kid j _ (by simp [Gd.dl, List.getElem?_eq_getElem g1])) ?_
      rw [hcs]
      exact h2.kid j _ (by simp [Gd.dl, List.getElem?_eq_getElem g2])
    rw [sub bs bs' _ rb rb2 hb hb2 qbl fun a ha cs t' g1 g2 => ih1 a ha g1 g2, sub es es' _ rc rc2 hc hc2 qcl fun a ha cs t' g1 g2 => ih2 a ha g1 g2]
theorem la_fun {W : World} {B : Nat} : Fnl (LA W B) := by
  rintro ⟨A, c, ks⟩ ⟨A', c', ks'⟩ ⟨r, h⟩ ⟨r', h'⟩ hk
  unfold LN.key at hk
  injection hk with hk1 hk2
  apply List.ext_getElem hk2
  intro j g1 g2
  have g1' : j < ks.length := g1
  rw [if_neg (by show ¬ ks.length = 0; omega), if_neg (by show ¬ ks'.length = 0; have g2' : j < ks'.length := g2; omega)] at hk1
  obtain ⟨ad, ea, _, hld⟩ := h.cell j g1
  obtain ⟨ad', ea', _, hld'⟩ := h'.cell j g2
  have ea : A = some ad := ea
  have ea' : A' = some ad' := ea'
  have hk1 : A = A' := hk1
  rw [ea, ea'] at hk1
  cases hk1
  have hcs := ldC_fun hld hld'
  refine rdN_fun (h.kid j _ (List.getElem?_eq_getElem g1)) (t' := ks'[j]) (B' := B) ?_
  rw [hcs]
  exact h'.kid j _ (List.getElem?_eq_getElem g2)
theorem la_ad {w : World} {B : Nat} {l : LN Gd.St} (h : LA (pln w) B l) (hne : l.ks ≠ []) : ∃ ad, l.A = some ad ∧ IsPl w ad.block ∧ ad.block < B := by
  obtain ⟨rows, h⟩ := h
  obtain ⟨ad, e, hB, hl⟩ := h.cell 0 (List.length_pos_iff.2 hne)
  have := (ldC_out hl).2
  rw [add_block] at this
  exact ⟨ad, e, this, hB⟩
theorem la_pt {w : World} {B : Nat} {l : LN Gd.St} (h : LA (pln w) B l) : PtOk w l.key.1 := PtOk_key fun hne ad e => by
  obtain ⟨ad', e', hp, _⟩ := la_ad h hne
  rw [e] at e'; cases e'; exact hp
theorem la_at {w wr : World} {l : LN Gd.St} {m : Nat} {t : Gd.St} (h : LA (pln w) w.heap.size l) (hb : Below w.heap.size w wr) (ht : l.ks[m]? = some t) :
    ∃ ad v0 v1 v2 v3 v4 v5 v6 v7, l.A = some ad ∧ LdC wr (ad.add (m * 8)) [v0, v1, v2, v3, v4, v5, v6, v7] ∧ RdN (pln w) w.heap.size [v0, v1, v2, v3, v4, v5, v6, v7] t := by
  obtain ⟨rows, h⟩ := h
  have hm : m < l.ks.length := by
    rcases Nat.lt_or_ge m l.ks.length with h1 | h1
    · exact h1
    · rw [List.getElem?_eq_none h1] at ht; cases ht
  obtain ⟨ad, e, hB, hl⟩ := h.cell m hm
  have hk := h.kid m t ht
  have h1 := (ldC_out hl).1
  have h2 := ldC_keep h1 (W' := wr) fun p hp => hb.cell (by rw [hp, add_block]; exact hB)
  obtain ⟨v0, v1, v2, v3, v4, v5, v6, v7, ev, _⟩ := ldC_cells h2
  rw [ev] at h2 hk
  exact ⟨ad, v0, v1, v2, v3, v4, v5, v6, v7, e, h2, hk⟩
theorem rdN_form {W : World} {B : Nat} {v0 v1 v2 v3 v4 v5 v6 v7 : Value} {t : Gd.St} (h : RdN W B [v0, v1, v2, v3, v4, v5, v6, v7] t) : ∃ (nk : Int) (ns : List UInt8) (ek en : Int) (es : List UInt8) (nA : Option Addr) (nl nc : Nat) (qA : Option Addr) (ql qc : Nat) (oA : Option Addr) (ol oc : Nat), [v0, v1, v2, v3, v4, v5, v6, v7] = ([.int .i64 nk, sv ns, .int .i64 ek, .int .i64 en, sv es, .slice nA nl nc, .slice qA ql qc, .slice oA ol oc] : List Value) := by
  obtain ⟨k, s, e, bs, es⟩ := t
  unfold RdN at h
  rw [Gd.St.d_mk] at h
  obtain ⟨ek, en, en', A, l, c, Bb, cb, C, cc, rb, rc, e8, _⟩ := Gd.st_inv h
  exact ⟨k, s, ek, en, en', A, l, c, Bb, _, cb, C, _, cc, e8⟩
theorem la_node {w wr : World} {l : LN Gd.St} {m : Nat} {t : Gd.St} (h : LA (pln w) w.heap.size l) (hb : Below w.heap.size w wr) (ht : l.ks[m]? = some t) :
    ∃ (ad : Addr) (nk : Int) (ns : List UInt8) (ek en : Int) (es : List UInt8) (nA : Option Addr) (nl nc : Nat) (qA : Option Addr) (ql qc : Nat) (oA : Option Addr) (ol oc : Nat), l.A = some ad ∧ LdC wr (ad.add (m * 8)) [.int .i64 nk, sv ns, .int .i64 ek, .int .i64 en, sv es, .slice nA nl nc, .slice qA ql qc, .slice oA ol oc] ∧ RdN (pln w) w.heap.size [.int .i64 nk, sv ns, .int .i64 ek, .int .i64 en, sv es, .slice nA nl nc, .slice qA ql qc, .slice oA ol oc] t := by
  obtain ⟨ad, v0, v1, v2, v3, v4, v5, v6, v7, hA, hld, hrd⟩ := la_at h hb ht
  obtain ⟨nk, ns, ek, en, es, nA, nl, nc, qA, ql, qc, oA, ol, oc, e⟩ := rdN_form hrd
  rw [e] at hld hrd
  exact ⟨ad, nk, ns, ek, en, es, nA, nl, nc, qA, ql, qc, oA, ol, oc, hA, hld, hrd⟩
theorem rdN_kids {W : World} {B : Nat} {v0 v1 v2 v3 v4 v5 v6 v7 : Value} {t : Gd.St} (h : RdN W B [v0, v1, v2, v3, v4, v5, v6, v7] t) :
    ∃ KL : List (LN Gd.St), KL.map LN.ks = kidsS t ∧ (∀ l ∈ KL, LA W B l) ∧ KL.map slv = [v6, v7] := by
  obtain ⟨k, s, e, bs, es⟩ := t
  unfold RdN at h
  rw [Gd.St.d_mk] at h
  obtain ⟨ek, en, en', A, l, c, Bb, cb, C, cc, rb, rc, e8, _, hx, hb, hlb, hc, hlc⟩ := Gd.st_inv h
  unfold Gd.sc at e8
  injection e8 with _ e8; injection e8 with _ e8; injection e8 with _ e8; injection e8 with _ e8; injection e8 with _ e8; injection e8 with _ e8; injection e8 with e6 e8; injection e8 with e7 _
  simp only [Gd.dl, List.length_map] at e6 e7 hlb hlc
  have one : ∀ (A : Option Addr) (c : Nat) (L : List Gd.St) (r : Nat → List Value), Gd.Row W B 1 A (Gd.dl L) r → L.length ≤ Gd.maxI → LA W B ⟨A, c, L⟩ := fun A c L r hr hl => by
    refine ⟨r, fun j hj => ?_, fun j t ht => ?_, hl⟩
    · obtain ⟨hw, ad, ea, hB, hld⟩ := hr.cell j (by simpa [Gd.dl] using hj)
      exact ⟨ad, ea, hB, hw, hld⟩
    · have ht : L[j]? = some t := ht
      exact hr.kid j _ (by simp [Gd.dl, ht])
  refine ⟨[⟨Bb, cb, bs⟩, ⟨C, cc, es⟩], rfl, fun l hl' => ?_, by rw [e6, e7]; rfl⟩
  rcases List.mem_cons.1 hl' with rfl | hl'
  · exact one _ _ _ _ hb hlb
  · rw [List.mem_singleton] at hl'; subst hl'; exact one _ _ _ _ hc hlc
abbrev belowF : Value := .func (Fn.func 82) #[] #[]
abbrev RowT : TypeId := 25
theorem below_c (v0 v1 v2 v3 v4 v5 : Value) (A : Option Addr) (l c : Nat) (A' : Option Addr) (l' c' : Nat) (w : World) : Calls Tryz.prog 82 #[.agg #[v0, v1, v2, v3, v4, v5, .slice A l c, .slice A' l' c']] w fun e w' => ∃ g, e = .returned (.slice (some ⟨g, 0, none⟩) 2 2) ∧ w.heap.size ≤ g ∧ Blk w' g RowT [.slice A l c, .slice A' l' c'] ∧ Below w.heap.size w w' := by
  have hb := hid (box_below w (.cells #[v0, v1, v2, v3, v4, v5, .slice A l c, .slice A' l' c'] 94))
  have hB := hid (Blk.new w 94 [v0, v1, v2, v3, v4, v5, .slice A l c, .slice A' l' c'])
  go_enter Tryz.func82, Tryz.ntmps82
  have p6 : (w.alloc (.cells #[v0, v1, v2, v3, v4, v5, .slice A l c, .slice A' l' c'] 94)).cell? ⟨w.heap.size, 6, none⟩ = some (.slice A l c) := hB.out.cell 6
  have p7 : (w.alloc (.cells #[v0, v1, v2, v3, v4, v5, .slice A l c, .slice A' l' c'] 94)).cell? ⟨w.heap.size, 7, none⟩ = some (.slice A' l' c') := hB.out.cell 7
  go_wp2_with fail
  go_ret
  have hn := Blk.new (w.alloc (.cells #[v0, v1, v2, v3, v4, v5, .slice A l c, .slice A' l' c'] 94)) 25 [.slice A l c, .slice A' l' c']
  rw [size_alloc'] at hn
  exact ⟨_, rfl, Nat.le_succ _, hn, hb.out.trans ((box_below _ _).mono hb.out.size)⟩
theorem below_any {v0 v1 v2 v3 v4 v5 v6 v7 : Value} {t : Gd.St} {W : World} {B : Nat} (h : RdN W B [v0, v1, v2, v3, v4, v5, v6, v7] t) : ∃ KL : List (LN Gd.St), KL.map LN.ks = kidsS t ∧ (∀ l ∈ KL, LA W B l) ∧ KL.length ≤ 2 ∧
    ∀ w, Calls Tryz.prog 82 #[.agg #[v0, v1, v2, v3, v4, v5, v6, v7]] w fun e w' => ∃ g, e = .returned (.slice (some ⟨g, 0, none⟩) KL.length KL.length) ∧ w.heap.size ≤ g ∧ Blk w' g RowT (KL.map slv) ∧ Below w.heap.size w w' := by
  obtain ⟨KL, h1, h2, h3⟩ := rdN_kids h
  have hl : KL.length = 2 := by have := congrArg List.length h3; simpa using this
  obtain ⟨l0, l1, rfl⟩ : ∃ l0 l1, KL = [l0, l1] := by
    match KL, hl with
    | [l0, l1], _ => exact ⟨l0, l1, rfl⟩
  injection h3 with h3 h4
  injection h4 with h4 _
  subst h3; subst h4
  refine ⟨[l0, l1], h1, h2, by simp, fun w => (below_c v0 v1 v2 v3 v4 v5 l0.A l0.ks.length l0.c l1.A l1.ks.length l1.c w).mono fun e w' ⟨g, e1, e2, e3, e4⟩ => ⟨g, e1, e2, e3, e4⟩⟩
end Go.Proofs.YtnmomlaimffonaaGreat.Gs
