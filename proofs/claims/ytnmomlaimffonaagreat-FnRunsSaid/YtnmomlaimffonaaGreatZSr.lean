/- What the program reads statements as: values behind an interface, and rows of these. -/
import Derived.Test.YtnmomlaimffonaaGreatZMes
set_option maxRecDepth 100000
namespace Go.Proofs.YtnmomlaimffonaaGreat.Sr
open Go.RowKit Go.Lib Com Mem YtnmomlaimffonaaGreat.Os Tr Pl Gd
inductive StR (W : World) (B : Nat) : Value → St → Prop where
  | asg {ek en : Int} {es s : List UInt8} {A : Option Addr} {l c : Nat} {e : T} (hx : Ex W B (nv ek en es A l c) e) :
      StR W B (.iface 150 (.agg #[.int .i64 ek, .int .i64 en, sv es, .slice A l c, sv s])) (.mk 1 s e [] [])
  | chc {ek en : Int} {es : List UInt8} {A : Option Addr} {l c : Nat} {e : T} (hx : Ex W B (nv ek en es A l c) e) {bs ss : List St} (Ab As : Option Addr) (cb cs : Nat) (rb rs : Nat → Value) (hlb : bs.length ≤ maxI) (hls : ss.length ≤ maxI)
      (hb : ∀ j, j < bs.length → ∃ ad, Ab = some ad ∧ ad.block < B ∧ W.cell? (ad.add j) = some (rb j)) (kb : ∀ j t, bs[j]? = some t → StR W B (rb j) t)
      (hs : ∀ j, j < ss.length → ∃ ad, As = some ad ∧ ad.block < B ∧ W.cell? (ad.add j) = some (rs j)) (ks : ∀ j t, ss[j]? = some t → StR W B (rs j) t) :
      StR W B (.iface 152 (.agg #[.int .i64 ek, .int .i64 en, sv es, .slice A l c, .slice Ab bs.length cb, .slice As ss.length cs])) (.mk 2 [] e bs ss)
  | lop {ek en : Int} {es : List UInt8} {A : Option Addr} {l c : Nat} {e : T} (hx : Ex W B (nv ek en es A l c) e) {bs : List St} (Ab : Option Addr) (cb : Nat) (rb : Nat → Value) (hlb : bs.length ≤ maxI)
      (hb : ∀ j, j < bs.length → ∃ ad, Ab = some ad ∧ ad.block < B ∧ W.cell? (ad.add j) = some (rb j)) (kb : ∀ j t, bs[j]? = some t → StR W B (rb j) t) :
      StR W B (.iface 154 (.agg #[.int .i64 ek, .int .i64 en, sv es, .slice A l c, .slice Ab bs.length cb])) (.mk 3 [] e bs [])
  | emi {ek en : Int} {es : List UInt8} {A : Option Addr} {l c : Nat} {e : T} (hx : Ex W B (nv ek en es A l c) e) :
      StR W B (.iface 156 (.agg #[.int .i64 ek, .int .i64 en, sv es, .slice A l c])) (.mk 4 [] e [] [])
structure RowR (W : World) (B : Nat) (A : Option Addr) (L : List St) (rows : Nat → Value) : Prop where
  cell : ∀ j, j < L.length → ∃ ad, A = some ad ∧ ad.block < B ∧ W.cell? (ad.add j) = some (rows j)
  kid : ∀ j t, L[j]? = some t → StR W B (rows j) t
theorem StR.cry {w w' : World} {B B' : Nat} {X : Value} {t : St} (h : StR w B X t) (hc : Cry w w' B) (hB : B ≤ B') : StR w' B' X t := by
  induction h with
  | asg hx => exact .asg (Ex.cry hx hc hB)
  | chc hx Ab As cb cs rb rs hlb hls hb kb hs ks ihb ihs =>
    refine .chc (Ex.cry hx hc hB) Ab As cb cs rb rs hlb hls (fun j hj => ?_) ihb (fun j hj => ?_) ihs
    · obtain ⟨ad, e, h1, h2⟩ := hb j hj
      exact ⟨ad, e, by omega, hc _ _ (by rw [add_block]; exact h1) h2⟩
    · obtain ⟨ad, e, h1, h2⟩ := hs j hj
      exact ⟨ad, e, by omega, hc _ _ (by rw [add_block]; exact h1) h2⟩
  | lop hx Ab cb rb hlb hb kb ihb =>
    refine .lop (Ex.cry hx hc hB) Ab cb rb hlb (fun j hj => ?_) ihb
    obtain ⟨ad, e, h1, h2⟩ := hb j hj
    exact ⟨ad, e, by omega, hc _ _ (by rw [add_block]; exact h1) h2⟩
  | emi hx => exact .emi (Ex.cry hx hc hB)
theorem RowR.cry {w w' : World} {B B' : Nat} {A : Option Addr} {L : List St} {rows : Nat → Value} (h : RowR w B A L rows) (hc : Cry w w' B) (hB : B ≤ B') : RowR w' B' A L rows :=
  ⟨fun j hj => by
    obtain ⟨ad, e, h1, h2⟩ := h.cell j hj
    exact ⟨ad, e, by omega, hc _ _ (by rw [add_block]; exact h1) h2⟩, fun j t ht => (h.kid j t ht).cry hc hB⟩
theorem StR.form {W : World} {B : Nat} {X : Value} {t : St} (h : StR W B X t) : ∃ ty y, X = .iface ty y := by cases h <;> exact ⟨_, _, rfl⟩
def plz (w : World) (S : Nat → Bool) : World := { w with heap := w.heap.mapIdx fun k o => if S k then .cells #[] 0 (7, 7) else plo o }
theorem plz_at {w : World} {S : Nat → Bool} {k : Nat} (h : S k = false) : (plz w S).heap[k]? = (pln w).heap[k]? := by
  rw [pln_at]
  unfold plz
  simp only [Array.getElem?_mapIdx, h, Bool.false_eq_true, if_false]
theorem plz_cell {w : World} {S : Nat → Bool} {p : Addr} {v : Value} (h : (plz w S).cell? p = some v) : S p.block = false ∧ (pln w).cell? p = some v := by
  cases hS : S p.block with
  | false =>
    refine ⟨rfl, ?_⟩
    unfold World.cell? at *
    rw [plz_at hS] at h; exact h
  | true =>
    exfalso
    unfold World.cell? plz at h
    simp only [Array.getElem?_mapIdx, hS, if_true] at h
    cases hb : w.heap[p.block]? with
    | none => rw [hb] at h; simp at h
    | some o => rw [hb] at h; simp at h
theorem plz_in {w : World} {S : Nat → Bool} {p : Addr} {v : Value} (hS : S p.block = false) (h : (pln w).cell? p = some v) : (plz w S).cell? p = some v := by
  unfold World.cell? at *
  rw [plz_at hS]; exact h
theorem cry_z {w w' : World} {S S' : Nat → Bool} {B : Nat} (hc : ∀ k, k < B → S k = false → S' k = false ∧ w'.heap[k]? = w.heap[k]?) : Cry (plz w S) (plz w' S') B := fun p v hp hv => by
  obtain ⟨h1, h2⟩ := plz_cell hv
  obtain ⟨h3, h4⟩ := hc _ hp h1
  refine plz_in h3 ?_
  unfold World.cell? at *
  rw [pln_keep h4]; exact h2
theorem cry_zp (w : World) (S : Nat → Bool) (B : Nat) : Cry (plz w S) (pln w) B := fun _ _ _ hv => (plz_cell hv).2
theorem cry_pz {w w' : World} {S : Nat → Bool} {B : Nat} (hc : ∀ k, k < B → S k = false ∧ w'.heap[k]? = w.heap[k]?) : Cry (pln w) (plz w' S) B := fun p v hp hv => by
  obtain ⟨h3, h4⟩ := hc _ hp
  refine plz_in h3 ?_
  unfold World.cell? at *
  rw [pln_keep h4]; exact hv
theorem cry_pb {w w' : World} {B : Nat} (h : Below B w w') : Cry (pln w) (pln w') B := Cry.of_below (pln_below h)
theorem StR.go {w w' : World} {X : Value} {t : St} (h : StR (pln w) w.heap.size X t) (hb : Below w.heap.size w w') : StR (pln w') w'.heap.size X t := h.cry (cry_pb hb) hb.size
theorem RowR.go {w w' : World} {A : Option Addr} {L : List St} {rows : Nat → Value} (h : RowR (pln w) w.heap.size A L rows) (hb : Below w.heap.size w w') : RowR (pln w') w'.heap.size A L rows := h.cry (cry_pb hb) hb.size
def ivb (lo hi : Nat) : Nat → Bool := fun k => decide (lo ≤ k) && decide (k < hi)
theorem ivb_no {lo hi k : Nat} (h : k < lo ∨ hi ≤ k) : ivb lo hi k = false := by
  unfold ivb
  rcases h with h | h
  · rw [decide_eq_false (by omega), Bool.false_and]
  · rw [decide_eq_false (show ¬ k < hi by omega), Bool.and_false]
theorem ivb_of {lo hi k : Nat} (h : ivb lo hi k = false) : k < lo ∨ hi ≤ k := by
  unfold ivb at h
  by_cases h1 : lo ≤ k
  · rw [decide_eq_true h1, Bool.true_and] at h
    exact Or.inr (by have := of_decide_eq_false h; omega)
  · exact Or.inl (by omega)
def wow (S : Nat → Bool) (o : Option Nat) : Nat → Bool := fun k => S k || decide (o = some k)
theorem wow_of {S : Nat → Bool} {o : Option Nat} {k : Nat} (h : wow S o k = false) : S k = false ∧ o ≠ some k := by
  unfold wow at h
  rw [Bool.or_eq_false_iff] at h
  exact ⟨h.1, of_decide_eq_false h.2⟩
theorem wow_no {S : Nat → Bool} {o : Option Nat} {k : Nat} (h1 : S k = false) (h2 : o ≠ some k) : wow S o k = false := by
  unfold wow
  rw [h1, decide_eq_false h2]; rfl
abbrev IT : TypeId := 118
theorem infoI : (Tryz.prog.info? IT).map (fun i => (i.zero, i.size, i.bytes)) = some (some .nilIface, 1, 16) := by kernel_rfl
structure GrowR (w : World) (lo : Nat) (S : Nat → Bool) (v : Value) (L : List St) : Prop where
  row : ∃ xs : List Value, w.ownsRow lo IT 1 v L.length xs ∧ ∀ (j : Nat) (t : St), L[j]? = some t → ∃ X, xs[j]? = some X ∧ StR (plz w (wow S v.ownBlock)) w.heap.size X t
section
variable {w w' : World} {lo : Nat} {S : Nat → Bool} {v : Value} {L : List St}
theorem GrowR.nil (w : World) (lo : Nat) (S : Nat → Bool) : GrowR w lo S (.slice none 0 0) [] := ⟨[], World.ownsRow_nil _ _ _ _, fun j t ht => by simp at ht⟩
theorem GrowR.below (h : GrowR w lo S v L) (hb : Below w.heap.size w w') : GrowR w' lo S v L := by
  obtain ⟨xs, ho, hk⟩ := h
  refine ⟨xs, own_keep ho fun b h => hb.block b (own_ge ho h).2, fun j t ht => ?_⟩
  obtain ⟨X, h1, h2⟩ := hk j t ht
  exact ⟨X, h1, h2.cry (cry_z fun k hk hS => ⟨hS, hb.block k hk⟩) hb.size⟩
theorem GrowR.own (h : GrowR w lo S v L) {b : Nat} (hb : v.ownBlock = some b) : lo ≤ b ∧ b < w.heap.size := by
  obtain ⟨xs, ho, hk⟩ := h
  exact own_ge ho hb
theorem GrowR.rd (h : GrowR w lo S v L) (hS : ∀ k, lo ≤ k → S k = false) : ∃ A c rows, v = .slice A L.length c ∧ RowR (plz w S) w.heap.size A L rows ∧ L.length ≤ maxI := by
  obtain ⟨xs, ho, hk⟩ := h
  rcases ho with ⟨hx, ⟨rfl, hz⟩ | ⟨g, cap, cur, rfl, hg, hblk, hnc, hcm, hcs, ht⟩⟩
  · have : L = [] := List.eq_nil_of_length_eq_zero hz
    subst this
    exact ⟨none, 0, fun _ => .nilIface, rfl, ⟨fun j hj => by simp at hj, fun j t ht => by simp at ht⟩, by simp⟩
  · have hB : Blk w g IT cur.toList := by unfold Blk; simpa using hblk
    refine ⟨_, _, fun j => xs.getD j .nilIface, rfl, ⟨fun j hj => ?_, fun j t hjt => ?_⟩, by unfold maxLen at hcm; unfold maxI; omega⟩
    · refine ⟨_, rfl, hB.lt, ?_⟩
      refine plz_in (by rw [add_block]; exact hS g hg) ?_
      rw [pln_in (by rw [add_block]; exact Blk.pl hB), add_zero, hB.cell]
      have hxl : xs.length = L.length := by rw [hx]; omega
      have e1 : xs[j]? = some (xs.getD j .nilIface) := by rw [List.getD_eq_getElem?_getD, List.getElem?_eq_getElem (by omega)]; rfl
      rw [← e1, ← ht, List.getElem?_take, if_pos (by omega)]
    · obtain ⟨X, h1, h2⟩ := hk j t hjt
      have e1 : xs.getD j .nilIface = X := by rw [List.getD_eq_getElem?_getD, h1]; rfl
      show StR (plz w S) w.heap.size (xs.getD j .nilIface) t
      rw [e1]
      exact h2.cry (cry_z fun k _ hk => ⟨(wow_of hk).1, rfl⟩) (Nat.le_refl _)
theorem GrowR.app (hG : GrowR w lo S v L) (hbs : lo ≤ w.heap.size) (X : Value) (t : St) (hX : X.oneCell' = true) (hr : StR (plz w (wow S v.ownBlock)) w.heap.size X t) (hl : L.length < 1000000000)
    {o : Oper} {a : Act} {ops : Array Oper} {rest : List Oper} {Q : Exit → Act → World → Prop} (hgd : o.guard = none) (s x : Operand) (ho : o.op = .call { callee := .builtin .append, args := #[s, x], argTypes := #[85, 85] }) (hs : a.eval s = v)
    (g : Nat) (hg : g = w.heap.size) (hx : a.eval x = .slice (some ⟨g, 0, none⟩) 1 1)
    (hK : ∀ v' w', GrowR w' lo S v' (L ++ [t]) → w.grownBy w' v.ownBlock → wpList Tryz.prog ops Q rest (a.put o.dst v') w') :
    wpList Tryz.prog ops Q (o :: rest) a (w.alloc (.cells #[X] IT)) := by
  subst hg
  obtain ⟨i0, hi, hz0, hz1, hz2⟩ := info_parts infoI
  have hb1 := box_below w (.cells #[X] IT)
  have hG1 := hG.below hb1
  obtain ⟨xs, how, hk⟩ := hG1
  have hxl : xs.length = L.length := by have := how.1; omega
  refine wpList_append_own_at (P := Tryz.prog) _ hgd s x 85 ho lo IT i0 .nilIface 1 16 Tryz.underlying85 hi hz0 hz1 hz2 rfl (by decide) v L.length xs hs how ⟨w.heap.size, 0, none⟩ 1 1 [X] hx (by simp)
    (fun j u hu => ?_) (fun u hu => by rw [List.mem_singleton] at hu; subst hu; exact hX) (by unfold maxLen; omega) (by omega) (by rw [size_alloc']; omega) ?_
  · rw [add_zero, (Blk.new w IT [X]).cell]; exact hu
  intro v' w' hown hgw _ hat
  refine hK v' w' ⟨xs ++ [X], by rw [List.length_append]; exact hown, fun j e he => ?_⟩ (gb_trans (World.grownBy_alloc w _ _) hgw)
  have hcry : Cry (plz (w.alloc (.cells #[X] IT)) (wow S v.ownBlock)) (plz w' (wow S v'.ownBlock)) (w.alloc (.cells #[X] IT)).heap.size := cry_z fun k hk hS => by
    obtain ⟨h1, h2⟩ := wow_of hS
    refine ⟨wow_no h1 ?_, hgw.block k hk fun e => h2 e.symm⟩
    rcases hat with e | e
    · rw [e]; exact h2
    · rw [e]
      intro h3
      have h4 : (w.alloc (.cells #[X] IT)).heap.size = k := Option.some.inj h3
      omega
  by_cases hjl : j < L.length
  · rw [List.getElem?_append_left hjl] at he
    obtain ⟨Y, h1, h2⟩ := hk j e he
    exact ⟨Y, by rw [List.getElem?_append_left (by omega)]; exact h1, h2.cry hcry hgw.size⟩
  · have hj2 := lt_of_get he
    rw [List.length_append, List.length_singleton] at hj2
    obtain rfl : j = L.length := by omega
    rw [List.getElem?_append_right (Nat.le_refl _), Nat.sub_self] at he
    cases he
    refine ⟨X, by rw [List.getElem?_append_right (by omega), hxl, Nat.sub_self]; rfl, ?_⟩
    exact (hr.cry (cry_z fun k hk hS => ⟨hS, hb1.block k hk⟩) hb1.size).cry hcry hgw.size
end
end Go.Proofs.YtnmomlaimffonaaGreat.Sr
set_option maxRecDepth 100000
namespace Go.Proofs.YtnmomlaimffonaaGreat.Gx
open Go.RowKit Go.Lib Go.Sort Com Mem Tr Im Ag Pl Kd
end Go.Proofs.YtnmomlaimffonaaGreat.Gx
