/- Expressions as such trees. -/
import Derived.Test.YtklcbagddijkgaaGreatZKd
import Derived.Test.YtklcbagddijkgaaGreatZTr
import Derived.Test.YtklcbagddijkgaaGreatZTr6
import Derived.Test.YtklcbagddijkgaaGreatZGd
set_option maxRecDepth 100000
namespace Go.Proofs.YtklcbagddijkgaaGreat.Kd
open Go.RowKit Go.Proofs.YtklcbagddijkgaaGreat.Tr

theorem depK_mem' {ks : List T} {f : T → Nat} {a : T} (ha : a ∈ ks) : f a ≤ depK ks f := by
  unfold depK
  have key : ∀ (l : List T) (n : Nat), n ≤ l.foldl (fun n a => max n (f a)) n ∧ ∀ b ∈ l, f b ≤ l.foldl (fun n a => max n (f a)) n := fun l => by
    induction l with
    | nil => exact fun n => ⟨Nat.le_refl _, fun _ hb => absurd hb (by simp)⟩
    | cons c r ih =>
      intro n
      obtain ⟨h1, h2⟩ := ih (max n (f c))
      refine ⟨Nat.le_trans (Nat.le_max_left _ _) h1, fun b hb => ?_⟩
      rcases List.mem_cons.1 hb with rfl | hb
      · exact Nat.le_trans (Nat.le_max_right _ _) h1
      · exact h2 b hb
  exact (key ks 0).2 a ha
def kidsT : T → List (List T)
  | .mk _ _ _ ks => [ks]
def rootT : T → T → Bool
  | .mk k n s _, .mk k' n' s' _ => (k == k') && ((n == n') && (s == s'))
theorem depK_mx (ks : List T) : depK ks depT = mx depT ks :=
  Nat.le_antisymm (depK_bd ks depT _ fun _ ha => mx_mem ha) (mx_bd fun _ ha => depK_mem' ha)
theorem eqL_eqLs : ∀ ks ks' : List T, eqL ks ks' = eqLs eqT ks ks'
  | [], [] => by rw [eqL]; rfl
  | a :: r, b :: q => by rw [eqL, eqLs, eqL_eqLs r q]
  | [], _ :: _ => by rw [eqL]; rfl
  | _ :: _, [] => by rw [eqL]; rfl
def kqX : Kq T where
  kids := kidsT
  cnt := cntT
  dep := depT
  cnt_eq := fun t => by obtain ⟨k, n, s, ks⟩ := t; rw [cntT_mk]; simp [kidsT, cntK]
  dep_eq := fun t => by
    obtain ⟨k, n, s, ks⟩ := t
    rw [depT_mk, depK_mx]
    show _ = 1 + Nat.max (mx depT ks) 0
    have : Nat.max (mx depT ks) 0 = mx depT ks := Nat.max_eq_left (Nat.zero_le _)
    omega
  two := fun t => by obtain ⟨k, n, s, ks⟩ := t; simp [kidsT]
  root := rootT
  eq := eqT
  eq_eq := fun a b => by
    obtain ⟨k, n, s, ks⟩ := a
    obtain ⟨k', n', s', ks'⟩ := b
    rw [eqT_mk, eqL_eqLs]
    simp [kidsT, rootT, eqLs, Bool.and_assoc]
  kids_len := fun a b => by cases a; cases b; rfl
abbrev kdX : Kd T := kqX.toKd
theorem cntL_X (ks : List T) : kdX.cntL ks = cntK ks := rfl
/-- the names of an expression are those of its nodes -/
theorem varsT_sub (x : List UInt8) (t : T) : x ∈ varsT t ↔ ∃ n ks, Sub kdX (.mk 2 n x ks) t := by
  induction t using T.ind with
  | h k n s ks ih =>
    rw [varsT_mk, List.mem_append]
    have hk : x ∈ varsK ks ↔ ∃ n' ks', SubL kdX (.mk 2 n' x ks') ks := by
      unfold varsK
      rw [List.mem_flatten]
      constructor
      · rintro ⟨l, hl, hx⟩
        obtain ⟨a, ha, rfl⟩ := List.mem_map.1 hl
        obtain ⟨n', ks', h⟩ := (ih a ha).1 hx
        exact ⟨n', ks', a, ha, h⟩
      · rintro ⟨n', ks', a, ha, h⟩
        exact ⟨varsT a, List.mem_map.2 ⟨a, ha, rfl⟩, (ih a ha).2 ⟨n', ks', h⟩⟩
    rw [hk]
    constructor
    · rintro (h | ⟨n', ks', h⟩)
      · by_cases h2 : k = 2
        · rw [if_pos h2, List.mem_singleton] at h
          subst h2; subst h
          exact ⟨n, ks, .here _⟩
        · rw [if_neg h2] at h; cases h
      · exact ⟨n', ks', sub_iff.2 (Or.inr ⟨ks, List.mem_singleton.2 rfl, h⟩)⟩
    · rintro ⟨n', ks', h⟩
      rcases sub_iff.1 h with h | ⟨l, hl, h⟩
      · cases h; exact Or.inl (by simp)
      · have hl : l ∈ [ks] := hl
        rw [List.mem_singleton] at hl
        rw [hl] at h
        exact Or.inr ⟨n', ks', h⟩
end Go.Proofs.YtklcbagddijkgaaGreat.Kd

/- Nodes and lists of nodes, read; the lists below a node. -/
set_option maxRecDepth 100000
namespace Go.Proofs.YtklcbagddijkgaaGreat.Gx
open Go.RowKit Go.Lib Go.Sort Go.Proofs.YtklcbagddijkgaaGreat.Com Go.Proofs.YtklcbagddijkgaaGreat.Mem Go.Proofs.YtklcbagddijkgaaGreat.Tr Go.Proofs.YtklcbagddijkgaaGreat.Im Go.Proofs.YtklcbagddijkgaaGreat.Ag Go.Proofs.YtklcbagddijkgaaGreat.Pl Go.Proofs.YtklcbagddijkgaaGreat.Kd

/-- the cells of a node read as the tree -/
def RdN (W : World) (B : Nat) (cs : List Value) (t : T) : Prop := Ex W B (.agg cs.toArray) t
def LdC (W : World) (a : Addr) (cs : List Value) : Prop := Ld4 W a (.agg cs.toArray)
/-- the list lies where it says and reads so -/
structure LAt (W : World) (B : Nat) (l : LN T) (rows : Nat → List Value) : Prop where
  cell : ∀ j, j < l.ks.length → ∃ ad, l.A = some ad ∧ ad.block < B ∧ LdC W (ad.add (j * 4)) (rows j)
  kid : ∀ j t, l.ks[j]? = some t → RdN W B (rows j) t
  len : l.ks.length ≤ 9223372036854775807
def LA (W : World) (B : Nat) (l : LN T) : Prop := ∃ rows, LAt W B l rows
theorem ldC_keep {W W' : World} {a : Addr} {cs : List Value} (h : LdC W a cs) (hk : ∀ p : Addr, p.block = a.block → W'.cell? p = W.cell? p) : LdC W' a cs :=
  Ld4.keep h hk
theorem ldC_out {W : World} {a : Addr} {cs : List Value} (h : LdC (pln W) a cs) : LdC W a cs ∧ IsPl W a.block :=
  pln_ld4 h
theorem ldC_cells {W : World} {a : Addr} {cs : List Value} (h : LdC W a cs) : ∃ v0 v1 v2 v3, cs = [v0, v1, v2, v3] ∧ W.cell? a = some v0 ∧ W.cell? ⟨a.block, a.off + 1, none⟩ = some v1 ∧ W.cell? ⟨a.block, a.off + 2, none⟩ = some v2 ∧ W.cell? ⟨a.block, a.off + 3, none⟩ = some v3 := by
  obtain ⟨c0, c1, c2, c3, e, h0, h1, h2, h3⟩ := h
  injection e with e
  exact ⟨c0, c1, c2, c3, congrArg Array.toList e, h0, h1, h2, h3⟩
theorem ldC_at {W : World} {a : Addr} {v0 v1 v2 v3 : Value} (h : LdC W a [v0, v1, v2, v3]) : W.cell? a = some v0 ∧ W.cell? ⟨a.block, a.off + 1, none⟩ = some v1 ∧ W.cell? ⟨a.block, a.off + 2, none⟩ = some v2 ∧ W.cell? ⟨a.block, a.off + 3, none⟩ = some v3 := by
  obtain ⟨_, _, _, _, e, h⟩ := ldC_cells h
  cases e; exact h
theorem ldC_fun {W : World} {a : Addr} {cs cs' : List Value} (h : LdC W a cs) (h' : LdC W a cs') : cs = cs' := by
  have := ld4_fun h h'
  injection this with e
  exact congrArg Array.toList e
theorem rdN_fun {W : World} {B B' : Nat} {cs : List Value} {t t' : T} (h : RdN W B cs t) (h' : RdN W B' cs t') : t = t' := ex_fun h h'
theorem ldC_go {W W' : World} {a : Addr} {cs : List Value} (h : LdC W a cs) (hb : Below W.heap.size W W') : LdC W' a cs := by
  obtain ⟨v0, v1, v2, v3, _, c0, _⟩ := ldC_cells h
  exact ldC_keep h fun p hp => hb.cell (by rw [hp]; exact block_lt_of_cell c0)
theorem la_fun {W : World} {B : Nat} : Fnl (LA W B) := by
  rintro ⟨A, c, ks⟩ ⟨A', c', ks'⟩ ⟨r, h⟩ ⟨r', h'⟩ hk
  unfold LN.key at hk
  injection hk with hk1 hk2
  apply List.ext_getElem hk2
  intro j g1 g2
  have g1' : j < ks.length := g1
  rw [if_neg (by show ¬ ks.length = 0; omega), if_neg (by show ¬ ks'.length = 0; have g2' : j < ks'.length := g2; omega)] at hk1
  obtain ⟨ad, ea, _, hld⟩ := h.cell j g1
  obtain ⟨ad', ea', _, hld'⟩ := h'.cell j g2
  have ea : A = some ad := ea
  have ea' : A' = some ad' := ea'
  have hk1 : A = A' := hk1
  rw [ea, ea'] at hk1
  cases hk1
  have hcs := ldC_fun hld hld'
  refine rdN_fun (h.kid j _ (List.getElem?_eq_getElem g1)) (t' := ks'[j]) (B' := B) ?_
  rw [hcs]
  exact h'.kid j _ (List.getElem?_eq_getElem g2)
/-- where a list that has nodes lies -/
theorem la_ad {w : World} {B : Nat} {l : LN T} (h : LA (pln w) B l) (hne : l.ks ≠ []) : ∃ ad, l.A = some ad ∧ IsPl w ad.block ∧ ad.block < B := by
  obtain ⟨rows, h⟩ := h
  obtain ⟨ad, e, hB, hl⟩ := h.cell 0 (List.length_pos_iff.2 hne)
  have := (ldC_out hl).2
  rw [add_block] at this
  exact ⟨ad, e, this, hB⟩
theorem la_pt {w : World} {B : Nat} {l : LN T} (h : LA (pln w) B l) : PtOk w l.key.1 := PtOk_key fun hne ad e => by
  obtain ⟨ad', e', hp, _⟩ := la_ad h hne
  rw [e] at e'; cases e'; exact hp
/-- a node of a list, later -/
theorem la_at {w wr : World} {l : LN T} {m : Nat} {t : T} (h : LA (pln w) w.heap.size l) (hb : Below w.heap.size w wr) (ht : l.ks[m]? = some t) :
    ∃ ad v0 v1 v2 v3, l.A = some ad ∧ LdC wr (ad.add (m * 4)) [v0, v1, v2, v3] ∧ RdN (pln w) w.heap.size [v0, v1, v2, v3] t := by
  obtain ⟨rows, h⟩ := h
  have hm : m < l.ks.length := by
    rcases Nat.lt_or_ge m l.ks.length with h1 | h1
    · exact h1
    · rw [List.getElem?_eq_none h1] at ht; cases ht
  obtain ⟨ad, e, hB, hl⟩ := h.cell m hm
  have hk := h.kid m t ht
  have h1 := (ldC_out hl).1
  have h2 := ldC_keep h1 (W' := wr) fun p hp => hb.cell (by rw [hp, add_block]; exact hB)
  obtain ⟨v0, v1, v2, v3, ev, _⟩ := ldC_cells h2
  rw [ev] at h2 hk
  exact ⟨ad, v0, v1, v2, v3, e, h2, hk⟩
/-- a node's cells -/
theorem rdN_form {W : World} {B : Nat} {v0 v1 v2 v3 : Value} {t : T} (h : RdN W B [v0, v1, v2, v3] t) : ∃ (nk nn : Int) (ns : List UInt8) (nA : Option Addr) (nl nc : Nat), [v0, v1, v2, v3] = ([.int .i64 nk, .int .i64 nn, sv ns, .slice nA nl nc] : List Value) := by
  obtain ⟨k, n, s, ks⟩ := t
  obtain ⟨A, c, vs, e, _, hl, hk⟩ := Ex.kids h
  injection e with e
  exact ⟨k, n, s, A, ks.length, c, congrArg Array.toList e⟩
theorem la_node {w wr : World} {l : LN T} {m : Nat} {t : T} (h : LA (pln w) w.heap.size l) (hb : Below w.heap.size w wr) (ht : l.ks[m]? = some t) :
    ∃ (ad : Addr) (nk nn : Int) (ns : List UInt8) (nA : Option Addr) (nl nc : Nat), l.A = some ad ∧ LdC wr (ad.add (m * 4)) [.int .i64 nk, .int .i64 nn, sv ns, .slice nA nl nc] ∧ RdN (pln w) w.heap.size [.int .i64 nk, .int .i64 nn, sv ns, .slice nA nl nc] t := by
  obtain ⟨ad, v0, v1, v2, v3, hA, hld, hrd⟩ := la_at h hb ht
  obtain ⟨nk, nn, ns, nA, nl, nc, e⟩ := rdN_form hrd
  rw [e] at hld hrd
  exact ⟨ad, nk, nn, ns, nA, nl, nc, hA, hld, hrd⟩
/-- a node's lists -/
theorem rdN_kids {W : World} {B : Nat} {v0 v1 v2 v3 : Value} {t : T} (h : RdN W B [v0, v1, v2, v3] t) :
    ∃ KL : List (LN T), KL.map LN.ks = kidsT t ∧ (∀ l ∈ KL, LA W B l) ∧ KL.map slv = [v3] := by
  obtain ⟨k, n, s, ks⟩ := t
  obtain ⟨A, c, vs, e, _, hl, hk⟩ := Ex.kids h
  injection e with e
  have e : [v0, v1, v2, v3] = [Value.int .i64 k, .int .i64 n, sv s, .slice A ks.length c] := congrArg Array.toList e
  injection e with _ e; injection e with _ e; injection e with _ e; injection e with e _
  refine ⟨[⟨A, c, ks⟩], rfl, fun l hl' => ?_, by rw [e]; rfl⟩
  rw [List.mem_singleton] at hl'; subst hl'
  refine ⟨fun j => match vs j with | .agg cs => cs.toList | _ => [], fun j hj => ?_, fun j t ht => ?_, hl⟩
  · obtain ⟨ad, ea, hB, hld⟩ := hk.cell j hj
    refine ⟨ad, ea, hB, ?_⟩
    have hld' := hld
    obtain ⟨c0, c1, c2, c3, ev, _⟩ := hld'
    rw [ev] at hld ⊢
    exact hld
  · have hj : j < ks.length := by
      rcases Nat.lt_or_ge j ks.length with h1 | h1
      · exact h1
      · rw [List.getElem?_eq_none h1] at ht; cases ht
    obtain ⟨ad, ea, hB, c0, c1, c2, c3, ev, _⟩ := hk.cell j hj
    have := hk.kid j t ht
    unfold RdN
    rw [ev] at this ⊢
    exact this
abbrev belowF : Value := .func (Fn.func 72) #[] #[]
abbrev RowT : TypeId := 46
set_option maxHeartbeats 1000000 in
theorem below_c (v0 v1 v2 : Value) (A : Option Addr) (l c : Nat) (w : World) : Calls Tryz.prog 72 #[.agg #[v0, v1, v2, .slice A l c]] w fun e w' => ∃ g, e = .returned (.slice (some ⟨g, 0, none⟩) 1 1) ∧ w.heap.size ≤ g ∧ Blk w' g 46 [.slice A l c] ∧ Below w.heap.size w w' := by
  have hb := hid (box_below w (.cells #[v0, v1, v2, .slice A l c] 48))
  have hB := hid (Blk.new w 48 [v0, v1, v2, .slice A l c])
  go_enter Tryz.func72, Tryz.ntmps72
  have p3 : (w.alloc (.cells #[v0, v1, v2, .slice A l c] 48)).cell? ⟨w.heap.size, 3, none⟩ = some (.slice A l c) := hB.out.cell 3
  go_wp2_with fail
  go_ret
  have hn := Blk.new (w.alloc (.cells #[v0, v1, v2, .slice A l c] 48)) 46 [.slice A l c]
  rw [size_alloc'] at hn
  exact ⟨_, rfl, Nat.le_succ _, hn, hb.out.trans ((box_below _ _).mono hb.out.size)⟩
theorem below_any {v0 v1 v2 v3 : Value} {t : T} {W : World} {B : Nat} (h : RdN W B [v0, v1, v2, v3] t) : ∃ KL : List (LN T), KL.map LN.ks = kidsT t ∧ (∀ l ∈ KL, LA W B l) ∧ KL.length ≤ 2 ∧
    ∀ w, Calls Tryz.prog 72 #[.agg #[v0, v1, v2, v3]] w fun e w' => ∃ g, e = .returned (.slice (some ⟨g, 0, none⟩) KL.length KL.length) ∧ w.heap.size ≤ g ∧ Blk w' g RowT (KL.map slv) ∧ Below w.heap.size w w' := by
  obtain ⟨KL, h1, h2, h3⟩ := rdN_kids h
  have hl : KL.length = 1 := by have := congrArg List.length h3; simpa using this
  obtain ⟨l0, rfl⟩ := List.length_eq_one_iff.1 hl
  injection h3 with h3 _
  subst h3
  refine ⟨[l0], h1, h2, by simp, fun w => (below_c v0 v1 v2 l0.A l0.ks.length l0.c w).mono fun e w' ⟨g, e1, e2, e3, e4⟩ => ⟨g, e1, e2, e3, e4⟩⟩
end Go.Proofs.YtklcbagddijkgaaGreat.Gx
