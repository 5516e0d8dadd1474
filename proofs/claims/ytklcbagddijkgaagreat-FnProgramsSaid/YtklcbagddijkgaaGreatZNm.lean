/- Lists of names in ascending order: plain mathematics. -/
import Derived.Lib.SlicesCompact
import Derived.Sort.Walk0
import Derived.Test.YtklcbagddijkgaaGreatZMp
set_option maxRecDepth 100000
namespace Go.Proofs.YtklcbagddijkgaaGreat.Nm

abbrev Str := List UInt8
def Asc (l : List Str) : Prop := l.Pairwise (· < ·)

theorem lt_of_le_ne {a b : Str} (h : a ≤ b) (h2 : a ≠ b) : a < b :=
  Classical.byContradiction fun h3 => h2 (List.le_antisymm h h3)

theorem asc_ext : ∀ {l m : List Str}, Asc l → Asc m → (∀ x, x ∈ l ↔ x ∈ m) → l = m
  | [], [], _, _, _ => rfl
  | [], y :: m, _, _, h => absurd ((h y).2 (by simp)) (by simp)
  | x :: l, [], _, _, h => absurd ((h x).1 (by simp)) (by simp)
  | x :: l, y :: m, hl, hm, h => by
    obtain ⟨hx, hl'⟩ := List.pairwise_cons.1 hl
    obtain ⟨hy, hm'⟩ := List.pairwise_cons.1 hm
    have e : x = y := by
      rcases List.mem_cons.1 ((h x).1 (by simp)) with e | h1
      · exact e
      rcases List.mem_cons.1 ((h y).2 (by simp)) with e | h2
      · exact e.symm
      exact absurd (List.lt_trans (hy x h1) (hx y h2)) (List.lt_irrefl y)
    subst e
    congr 1
    refine asc_ext hl' hm' fun z => ⟨fun hz => ?_, fun hz => ?_⟩
    · rcases List.mem_cons.1 ((h z).1 (List.mem_cons_of_mem _ hz)) with e | h1
      · subst e; exact absurd (hx z hz) (List.lt_irrefl z)
      · exact h1
    · rcases List.mem_cons.1 ((h z).2 (List.mem_cons_of_mem _ hz)) with e | h1
      · subst e; exact absurd (hy z hz) (List.lt_irrefl z)
      · exact h1

/-- x put in its place -/
def ins (x : Str) : List Str → List Str
  | [] => [x]
  | y :: r => if y < x then y :: ins x r else if y = x then y :: r else x :: y :: r
def sortU (L : List Str) : List Str := L.foldl (fun o x => ins x o) []

theorem mem_ins {x z : Str} {l : List Str} : z ∈ ins x l ↔ z = x ∨ z ∈ l := by
  induction l with
  | nil => simp [ins]
  | cons y r ih =>
    unfold ins
    split
    · simp only [List.mem_cons, ih]
      constructor
      · rintro (h | h | h)
        · exact Or.inr (Or.inl h)
        · exact Or.inl h
        · exact Or.inr (Or.inr h)
      · rintro (h | h | h)
        · exact Or.inr (Or.inl h)
        · exact Or.inl h
        · exact Or.inr (Or.inr h)
    · split
      · rename_i e; subst e; simp
      · simp
theorem asc_ins {x : Str} {l : List Str} (h : Asc l) : Asc (ins x l) := by
  induction l with
  | nil => simp [ins, Asc]
  | cons y r ih =>
    obtain ⟨hy, hr⟩ := List.pairwise_cons.1 h
    unfold ins
    split
    · rename_i hlt
      exact List.pairwise_cons.2 ⟨fun z hz => by rcases mem_ins.1 hz with rfl | hz; exact hlt; exact hy z hz, ih hr⟩
    · rename_i hge
      split
      · exact h
      · rename_i hne
        have hxy : x < y := lt_of_le_ne hge (fun e => hne e.symm)
        exact List.pairwise_cons.2 ⟨fun z hz => by rcases List.mem_cons.1 hz with rfl | hz; exact hxy; exact List.lt_trans hxy (hy z hz), h⟩
theorem ins_at {x : Str} : ∀ {l : List Str} {k : Nat} (hk : k ≤ l.length), (∀ j (h : j < k), l[j] < x) → (∀ h : k < l.length, ¬ l[k] < x ∧ l[k] ≠ x) → ins x l = l.take k ++ x :: l.drop k
  | [], k, hk, _, _ => by simp at hk; subst hk; rfl
  | y :: r, 0, _, _, h2 => by
    have := h2 (by simp)
    simp only [List.getElem_cons_zero] at this
    unfold ins
    rw [if_neg this.1, if_neg this.2]; rfl
  | y :: r, k + 1, hk, h1, h2 => by
    have h0 := h1 0 (by omega)
    simp only [List.getElem_cons_zero] at h0
    unfold ins
    rw [if_pos h0, ins_at (l := r) (k := k) (by simpa using hk) (fun j hj => by have := h1 (j + 1) (by omega); simpa using this) (fun h => by have := h2 (by simpa using h); simpa using this)]
    rfl
theorem ins_same {x : Str} : ∀ {l : List Str} {k : Nat} (hk : k < l.length), (∀ j (h : j < k), l[j] < x) → l[k] = x → ins x l = l
  | [], k, hk, _, _ => by simp at hk
  | y :: r, 0, _, _, h2 => by
    simp only [List.getElem_cons_zero] at h2
    subst h2
    unfold ins
    rw [if_neg (List.lt_irrefl y), if_pos rfl]
  | y :: r, k + 1, hk, h1, h2 => by
    have h0 := h1 0 (by omega)
    simp only [List.getElem_cons_zero] at h0
    unfold ins
    rw [if_pos h0, ins_same (l := r) (k := k) (by simpa using hk) (fun j hj => by have := h1 (j + 1) (by omega); simpa using this) (by simpa using h2)]

theorem fold_ins (L : List Str) : ∀ o, Asc o → Asc (L.foldl (fun o x => ins x o) o) ∧ ∀ z, z ∈ L.foldl (fun o x => ins x o) o ↔ z ∈ L ∨ z ∈ o := by
  induction L with
  | nil => intro o h; exact ⟨h, fun z => by simp⟩
  | cons x r ih =>
    intro o h
    obtain ⟨h1, h2⟩ := ih (ins x o) (asc_ins h)
    refine ⟨h1, fun z => (h2 z).trans ?_⟩
    rw [mem_ins, List.mem_cons]
    constructor
    · rintro (h | h | h)
      · exact Or.inl (Or.inr h)
      · exact Or.inl (Or.inl h)
      · exact Or.inr h
    · rintro ((h | h) | h)
      · exact Or.inr (Or.inl h)
      · exact Or.inl h
      · exact Or.inr (Or.inr h)
theorem sortU_asc (L : List Str) : Asc (sortU L) := (fold_ins L [] List.Pairwise.nil).1
theorem mem_sortU {L : List Str} {z : Str} : z ∈ sortU L ↔ z ∈ L := by
  have := (fold_ins L [] List.Pairwise.nil).2 z
  simpa [sortU] using this
theorem sortU_snoc {L : List Str} {k : Nat} (hk : k < L.length) : sortU (L.take (k + 1)) = ins L[k] (sortU (L.take k)) := by
  unfold sortU
  rw [List.take_succ_eq_append_getElem hk, List.foldl_append]; rfl
theorem sortU_self {L : List Str} (h : Asc L) : sortU L = L := asc_ext (sortU_asc L) h fun _ => mem_sortU
theorem asc_nodup {L : List Str} (h : Asc L) : L.Nodup := h.imp fun {a b} (hab : a < b) e => by subst e; exact List.lt_irrefl _ hab
theorem ins_len (x : Str) (l : List Str) : (ins x l).length ≤ l.length + 1 := by
  induction l with
  | nil => simp [ins]
  | cons y r ih => unfold ins; split; simp; exact ih; split <;> simp
theorem sortU_len (L : List Str) : (sortU L).length ≤ L.length := by
  have : ∀ (L o : List Str), (L.foldl (fun o x => ins x o) o).length ≤ o.length + L.length := by
    intro L
    induction L with
    | nil => intro o; simp
    | cons x r ih => intro o; have := ih (ins x o); have := ins_len x o; simp only [List.foldl_cons, List.length_cons]; omega
  have := this L []
  simpa [sortU] using this

/-! the program's way: sort, then leave out what stands beside its like -/
open Go.Lib Go.Sort in
theorem compact_inv (S : List Str) (hs : S.Pairwise (· ≤ ·)) : ∀ m, m ≤ S.length → Asc (compactUpTo S.toArray m) ∧ ∀ z, z ∈ compactUpTo S.toArray m ↔ z ∈ S.take m := by
  intro m
  induction m with
  | zero => intro _; simp [compactUpTo, Asc]
  | succ m ih =>
    intro hm
    obtain ⟨h1, h2⟩ := ih (by omega)
    have hlt : m < S.length := by omega
    have hget : S.toArray[m]! = S[m] := by simp [hlt]
    rw [compactUpTo_succ, hget]
    have htk : ∀ z, z ∈ S.take (m + 1) ↔ z ∈ S.take m ∨ z = S[m] := fun z => by rw [List.take_succ_eq_append_getElem hlt, List.mem_append, List.mem_singleton]
    have hle : ∀ y ∈ S.take m, y ≤ S[m] := fun y hy => by
      obtain ⟨j, hj, rfl⟩ := List.mem_iff_getElem.1 hy
      rw [List.getElem_take]
      have hjm : j < m := by rw [List.length_take] at hj; omega
      exact List.pairwise_iff_getElem.1 hs j m (by omega) hlt hjm
    cases hk : keeps S.toArray m with
    | true =>
      refine ⟨?_, fun z => by rw [if_pos rfl, List.mem_append, List.mem_singleton, htk, h2]⟩
      rw [if_pos rfl]
      refine List.pairwise_append.2 ⟨h1, List.pairwise_singleton _ _, fun a ha b hb => ?_⟩
      rw [List.mem_singleton] at hb
      subst hb
      have ha' := (h2 a).1 ha
      refine lt_of_le_ne (hle a ha') fun e => ?_
      subst e
      unfold keeps at hk
      simp only [decide_eq_true_eq] at hk
      rcases hk with rfl | hk
      · simp at ha'
      · have hm0 : 0 < m := by
          rcases Nat.eq_zero_or_pos m with h0 | h0
          · subst h0; simp at ha'
          · exact h0
        have hp : m - 1 < S.length := by omega
        have e1 : S.toArray[m - 1]! = S[m - 1] := by simp [hp]
        rw [hget, e1] at hk
        obtain ⟨j, hj, hje⟩ := List.mem_iff_getElem.1 ha'
        rw [List.getElem_take] at hje
        have hjm : j < m := by rw [List.length_take] at hj; omega
        have hle1 : S[m - 1] ≤ S[m] := List.pairwise_iff_getElem.1 hs (m - 1) m hp hlt (by omega)
        have hle2 : S[m] ≤ S[m - 1] := by
          by_cases hjm1 : j = m - 1
          · subst hjm1; rw [hje]; exact List.le_refl _
          · rw [← hje]; exact List.pairwise_iff_getElem.1 hs j (m - 1) (by omega) hp (by omega)
        exact hk (List.le_antisymm hle2 hle1)
    | false =>
      rw [if_neg (by simp), List.append_nil]
      refine ⟨h1, fun z => by
        rw [h2, htk]
        refine ⟨Or.inl, fun h => ?_⟩
        rcases h with h | rfl
        · exact h
        unfold keeps at hk
        simp only [decide_eq_false_iff_not, not_or, Decidable.not_not] at hk
        obtain ⟨hm0, he⟩ := hk
        have hp : m - 1 < S.length := by omega
        have e1 : S.toArray[m - 1]! = S[m - 1] := by simp [hp]
        rw [hget, e1] at he
        rw [he]
        exact List.mem_iff_getElem.2 ⟨m - 1, by rw [List.length_take]; omega, by rw [List.getElem_take]⟩⟩

open Go.Lib in
theorem compact_sort (L : List Str) : compact (L.mergeSort fun x y => decide (x ≤ y)) = sortU L := by
  have hs : (L.mergeSort fun x y => decide (x ≤ y)).Pairwise (· ≤ ·) := by
    have := List.pairwise_mergeSort (le := fun x y : Str => decide (x ≤ y)) (by intro a b c h1 h2; simp at *; exact List.le_trans h1 h2) (by intro a b; simp; exact List.le_total a b) L
    simpa using this
  obtain ⟨h1, h2⟩ := compact_inv _ hs _ (Nat.le_refl _)
  refine asc_ext h1 (sortU_asc L) fun z => ?_
  have := h2 z
  rw [List.take_of_length_le (Nat.le_refl _)] at this
  exact this.trans ((List.mergeSort_perm L _).mem_iff.trans mem_sortU.symm)
end Go.Proofs.YtklcbagddijkgaaGreat.Nm

/- Chapter 2: SortNames and Without, of the model. -/
set_option maxRecDepth 100000
namespace Go.Proofs.YtklcbagddijkgaaGreat.C2
open Go.RowKit Go.Lib Go.Proofs.YtklcbagddijkgaaGreat.Com Go.Proofs.YtklcbagddijkgaaGreat.Mem Go.Proofs.YtklcbagddijkgaaGreat.Mp Go.Proofs.YtklcbagddijkgaaGreat.Ow Go.Proofs.YtklcbagddijkgaaGreat.Nm

set_option maxHeartbeats 1000000 in
theorem swithout_any (A1 A2 : Option Addr) (c1 c2 : Nat) (L R : List (List UInt8)) (w : World) (h1 : Rd w w.heap.size A1 (L.map sv)) (h2 : Rd w w.heap.size A2 (R.map sv)) (hn1 : L.length ≤ 2000000) (hn2 : R.length ≤ 9223372036854775807) :
    Calls Tryz.prog 17 #[.slice A1 L.length c1, .slice A2 R.length c2] w fun e w' => ∃ v, e = .returned v ∧ Grow 9 w w' v ((keepS L R).map sv) := by
  go_enter Tryz.func17, Tryz.ntmps17
  go_wp2_with fail
  go_loopw [5, 6] (fun o i wr => ∃ k : Nat, k ≤ L.length ∧ i = .int .i64 k ∧ Grow 9 w wr o ((keepS (L.take k) R).map sv)) (fun _ i _ => L.length - (Go.RowKit.intOf i).toNat)
  case atStart => exact ⟨0, Nat.zero_le _, rfl, Grow.lit0 _ _⟩
  case round =>
    obtain ⟨k, hk, rfl, hg⟩ := hrel
    by_cases hlt : k < L.length
    · obtain ⟨ad, rfl, _, hc⟩ := Lh.rd_str (h1.below hg.2) hlt
      have hst := hid (keep_snoc (R := R) hlt)
      have hkl := keep_len (L.take k) R
      have hkl' : ((keepS (L.take k) R).map sv).length < 1000000000000 := by rw [List.length_map]; rw [List.length_take] at hkl; omega
      have hcall := has_any A2 c2 R L[k] wr w.heap.size (h2.below hg.2) hn2
      have hg := hid hg
      cases hh : hasS R L[k] with
      | true =>
        rw [hh] at hst hcall
        have hcall := hid hcall
        clear hkl'
        go_wp2_with fail
        refine hcall.out.mono ?_
        rintro e w' ⟨rfl, rfl⟩
        go_wp2_with fail
        exact ⟨⟨k + 1, hlt, by go_num, by rw [hst.out]; simpa using hg.out⟩, by simp [Go.RowKit.intOf]; omega⟩
      | false =>
        rw [hh] at hst hcall
        have hcall := hid hcall
        go_wp2_with fail
        refine hcall.out.mono ?_
        rintro e w' ⟨rfl, rfl⟩
        go_wp2_with (at_builtin; refine hg.out.append strT (sv L[k]) rfl hkl' rfl _ _ rfl rfl rfl ?_; intro v1 w1 hg1 hgb hv1)
        exact ⟨⟨k + 1, hlt, by go_num, by rw [hst.out, List.map_append]; exact hg1⟩, by simp [Go.RowKit.intOf]; omega⟩
    · obtain rfl : k = L.length := by omega
      rw [List.take_of_length_le (Nat.le_refl _)] at hg
      go_wp2_with fail
      go_ret
      exact ⟨_, rfl, hg⟩

theorem Grow.drewN {e : TypeId} {w0 w : World} {v : Value} {xs : List Value} (h : Grow e w0 w v xs) (n : Nat) : Grow e w0 (w.drewN n) v xs := ⟨h.1, bdr h.2 n⟩
theorem rest_rd {wr : World} {O : List Str} {g m : Nat} (_h : m < O.length) (hc : ∀ j (_ : j < O.length), wr.cell? ⟨g, j, none⟩ = some (sv O[j])) (hg : g < wr.heap.size) (n : Nat) (o : Obj) : Rd ((wr.drewN n).alloc o) wr.heap.size (some ⟨g, m, none⟩) ((O.drop m).map sv) := fun _ =>
  ⟨_, rfl, hg, fun j u hu => by
    rw [List.getElem?_map, List.getElem?_drop] at hu
    cases hq : O[m + j]? with
    | none => rw [hq] at hu; cases hu
    | some y =>
      rw [hq] at hu
      obtain ⟨hj, hy⟩ := List.getElem?_eq_some_iff.1 hq
      have e : (⟨g, m, none⟩ : Addr).add j = ⟨g, m + j, none⟩ := by unfold Addr.add; split <;> simp_all
      rw [e, ← Option.some.inj hu, ← hy, ← hc _ hj]
      exact ((Below.refl wr.heap.size (wr.drewN n)).alloc (Nat.le_refl _) o).cell (p := ⟨g, m + j, none⟩) hg⟩
theorem rest_none {wr : World} {O : List Str} {m : Nat} {A : Option Addr} (h : m ≤ O.length) (h2 : O.length ≤ m) (n : Nat) (o : Obj) : Rd ((wr.drewN n).alloc o) wr.heap.size A ((O.drop m).map sv) := by
  obtain rfl : m = O.length := by omega
  rw [List.drop_of_length_le (Nat.le_refl _)]; exact Rd.nil_
theorem all_one (l : List Str) : ∀ u ∈ l.map sv, u.oneCell' = true := fun u hu => by obtain ⟨y, _, rfl⟩ := List.mem_map.1 hu; rfl
theorem rest_keep {w1 w3 : World} {base g g2 c2 n n' e : Nat} {xs : List Value} {o : Obj} (h : w1.ownsRow base e 1 (.slice (some ⟨g2, 0, none⟩) n' c2) n xs) (h3 : (w1.drew.alloc o).grownBy w3 (some g)) (hne : g < g2) : ∀ j u, xs[j]? = some u → w3.cell? ((⟨g2, 0, none⟩ : Addr).add j) = some u := by
  have h' : (w1.drew.alloc o).ownsRow base e 1 (.slice (some ⟨g2, 0, none⟩) n' c2) n xs := h.drew.alloc o
  exact (h'.kept h3 (Or.inr (by simp [Value.ownBlock]; omega))).cells (g := g2) rfl
theorem sort_step {w w1 w3 w4 : World} {v3 v4 : Value} {g m n3 n4 : Nat} {O : List Str} {x : Str} {o : Obj} (hB : Below w.heap.size w w1) (hg : w.heap.size ≤ g) (h3 : (w1.drew.alloc o).grownBy w3 (some g)) (ho3 : w3.ownsRow w.heap.size 9 1 v3 n3 (List.map sv (O.take m) ++ [sv x])) (h4 : w3.grownBy w4 v3.ownBlock)
    (ho4 : w4.ownsRow w.heap.size 9 1 v4 n4 (List.map sv (O.take m) ++ [sv x] ++ List.map sv (O.drop m))) : v4 ≠ .slice none 0 0 ∧ Grow 9 w w4 v4 ((O.take m ++ x :: O.drop m).map sv) := by
  have hb1 : Below w.heap.size w (w1.drew.alloc o) := Below.alloc (bdr hB 1) (by have := hB.size; simpa [World.drewN] using this) o
  have hb3 := hb1.grown h3 hb1.size (fun k hk => by cases hk; exact hg)
  have hb4 := hb3.grown h4 hb3.size (fun k hk => (ho3.lt k hk).1)
  have e : List.map sv (O.take m) ++ [sv x] ++ List.map sv (O.drop m) = (O.take m ++ x :: O.drop m).map sv := by simp
  have hl := ho4.1
  refine ⟨fun hv => ?_, ?_, hb4⟩
  · subst hv
    rcases ho4.2 with ⟨_, h0⟩ | ⟨_, _, _, h0, _⟩
    · subst h0; simp at hl
    · cases h0
  · rw [e] at ho4 hl
    rw [Nat.mul_one] at hl
    rw [hl]; exact ho4
set_option maxHeartbeats 2000000 in
theorem ssort_any (A : Option Addr) (c : Nat) (L : List (List UInt8)) (w : World) (h : Rd w w.heap.size A (L.map sv)) (hn : L.length ≤ 2000000) :
    Calls Tryz.prog 34 #[.slice A L.length c] w fun e w' => ∃ v, e = .returned v ∧ Grow 9 w w' v ((sortU L).map sv) := by
  go_enter Tryz.func34, Tryz.ntmps34
  go_wp2_with fail
  go_loopw [3, 4] (fun o i wr => ∃ k : Nat, k ≤ L.length ∧ i = .int .i64 k ∧ o ≠ .slice none 0 0 ∧ Grow 9 w wr o ((sortU (L.take k)).map sv)) (fun _ i _ => L.length - (Go.RowKit.intOf i).toNat)
  case atStart => exact ⟨0, Nat.zero_le _, rfl, by simp, Grow.lit0 _ _⟩
  case round =>
    obtain ⟨k, hk, rfl, hnn, hg⟩ := hrel
    by_cases hlt : k < L.length
    · obtain ⟨ad, rfl, hadlt, hc⟩ := Lh.rd_str (h.below hg.2) hlt
      have hul := sortU_len (L.take k)
      rw [List.length_take] at hul
      have hst := hid (sortU_snoc hlt)
      generalize hO : sortU (L.take k) = O at *
      generalize L[k] = x at *
      obtain ⟨g, cap, cur, hv, hgb, hblk, hnc, hcm, hcz, htk⟩ := hg.some_ hnn
      rw [List.length_map] at hnc htk hv
      subst hv
      have hcell : ∀ j (hj : j < O.length), wr.cell? ⟨g, j, none⟩ = some (sv O[j]) := fun j hj => by
        have := hg.1.cells (g := g) rfl j (sv O[j]) (by simp [hj])
        have e : (⟨g, 0, none⟩ : Addr).add j = ⟨g, j, none⟩ := by unfold Addr.add; split <;> simp_all
        rwa [e] at this
      have hcell := hid hcell
      have hg := hid hg
      clear h hO
      go_wp2_with fail
      go_loopw [5] (fun a wx => ∃ m n : Nat, m ≤ O.length ∧ a = .int .i64 m ∧ (∀ j (_ : j < m) (h : j < O.length), O[j] < x) ∧ wx = wr.drewN n) (fun a _ => O.length - (Go.RowKit.intOf a).toNat)
      case atStart => exact ⟨0, 0, Nat.zero_le _, rfl, fun j hj => by omega, rfl⟩
      case round =>
        obtain ⟨m, n, hm, rfl, hall, rfl⟩ := hrel
        have hall := hid hall
        by_cases hmo : m < O.length
        · have hcm := hcell.out m hmo
          go_wp2_with fail
          go_quiet (fail)
          cases hless : Op.bytesLess O[m] x with
          | true =>
            have hx : O[m] < x := by rw [Go.Proofs.bytesLess_eq] at hless; exact of_decide_eq_true hless
            have hnx := hid (fun j (hj : j < m + 1) (h : j < O.length) => by
              rcases Nat.lt_or_ge j m with h1 | h1
              · exact hall.out j h1 h
              · obtain rfl : j = m := by omega
                exact hx)
            clear hx
            go_wp2_with fail
            exact ⟨⟨m + 1, n + nq, hmo, by go_num, hnx.out, rfl⟩, by simp [Go.RowKit.intOf]; omega⟩
          | false =>
            have hx : ¬ O[m] < x := by rw [Go.Proofs.bytesLess_eq] at hless; exact of_decide_eq_false hless
            by_cases hq : O[m] = x
            · have t1 : (O[m] == x) = true := by rw [hq]; exact beq_self_eq_true _
              have hsame := hid (ins_same hmo (fun j hj => hall.out j hj (by omega)) hq)
              have hg2 := hid (Grow.drewN hg.out (n + nq))
              clear hx hq
              go_wp2_with fail
              go_quiet (fail)
              go_wp2_with fail
              exact ⟨⟨k + 1, hlt, by go_num, hnn, by rw [hst.out, hsame.out]; exact Grow.drewN hg.out _⟩, by simp [Go.RowKit.intOf]; omega⟩
            · have t1 : (O[m] == x) = false := by simpa using hq
              have hins := hid (ins_at (k := m) hm (fun j hj => hall.out j hj (by omega)) (fun _ => ⟨hx, hq⟩))
              clear hx hq
              have hrest := hid (rest_rd hmo hcell.out (by have := (Array.getElem?_eq_some_iff.1 hblk).1; exact this))
              have hmc : m < cap := by omega
              go_wp2_with fail
              go_quiet (fail)
              go_wp2_with (at_builtin; refine (Grow.lit0 9 (wr.drewN _)).appendAll strT (some ⟨g, m, none⟩) (O.length - m) (cap - m) wr.heap.size ((O.drop m).map sv) (by simp) (fun e => by cases e) (hrest.out _ _) (all_one _) (by simp <;> omega) rfl _ _ rfl rfl rfl ?_; intro v1 w1 hg1 _ hv1)
              have hv1 : v1 ≠ .slice none 0 0 := fun e => by cases (hv1.1 e).1
              obtain ⟨g2, c2, cur2, hv2, hgb2, hblk2, hnc2, hcm2, hcz2, htk2⟩ := hg1.some_ hv1
              have hB : Below wr.heap.size wr w1 := ⟨hg1.2.os, hg1.2.tape, hg1.2.output, hg1.2.size, hg1.2.block⟩
              have ho1 := hid (hg.out.below hB (Nat.le_refl _))
              have hc1 := (hB.cell (p := ad.add k) (by rw [add_block]; have := hg.out.2.size; omega)).trans hc
              have hgw : g < wr.heap.size := (Array.getElem?_eq_some_iff.1 hblk).1
              have hrd2 := hid hg1.1
              simp only [List.nil_append, List.length_map, List.length_drop] at hv2 hnc2
              subst hv2
              have hgb2 : wr.heap.size ≤ g2 := hgb2
              have hst := hid (hst.out.trans hins.out)
              have hsz1 := hB.size
              have hws := hg.out.2.size
              have hmc' : m ≤ cap := by omega
              have hT0 := ho1.out.1
              rw [List.length_map] at hT0
              have hT1 := own_take (k := m) hT0 hm (by simp)
              have hT1 := hid (fun (o : Obj) => hT1.drew.alloc o)
              have hrd2 := hrd2.out
              rw [List.nil_append] at hrd2
              have hR := hid (fun (w3 : World) (o : Obj) (h3 : (w1.drew.alloc o).grownBy w3 (some g)) => rest_keep hrd2 (o := o) h3 (by omega))
              clear hrd2 hT0
              have hlm : (List.map sv (O.take m)).length = m := by rw [List.length_map, List.length_take]; omega
              have hlm := hid hlm
              clear hc hless t1 hins hrest hg1 hv1 hcm hall hcell hblk hblk2 htk htk2 hcz hcz2 hg
              go_wp2_with fail
              go_region_law (first | (refine step_own strT rfl (.tmp 53) (.tmp 58) rfl w.heap.size (.slice (some ⟨g, 0, none⟩) m cap) ((O.take m).map sv) rfl (by rw [hlm.out, List.map_take]; exact hT1.out _) ⟨w1.heap.size, 0, none⟩ 1 1 [sv x] rfl rfl (one_cell w1.drew (sv x) _) (one_one x) (by rw [hlm.out]; omega) (by simp <;> omega) ?_; intro v3 w3 hown3 hgb3 hnn3) | (refine step_own strT rfl (.tmp 59) (.tmp 60) rfl w.heap.size v3 ((O.take m).map sv ++ [sv x]) rfl (by rw [List.length_append]; exact hown3) ⟨g2, 0, none⟩ (O.length - m) c2 ((O.drop m).map sv) rfl (by simp) (hR.out _ _ hgb3) (all_one _) (by rw [List.length_append, hlm.out]; simp <;> omega) (by have := hgb3.size; simp at this; omega) ?_; intro v4 w4 hown4 hgb4 hnn4))
              obtain ⟨hn4, hg4⟩ := sort_step ho1.out.2 hgb hgb3 hown3 hgb4 hown4
              clear hown3 hown4 hgb3 hgb4 hnn3 hnn4
              go_wp2_with fail
              exact ⟨⟨k + 1, hlt, by go_num, hn4, by rw [hst.out]; exact hg4⟩, by simp [Go.RowKit.intOf]; omega⟩
        · have t0 : decide (m < O.length) = false := decide_eq_false hmo
          have hins := hid (ins_at (k := m) hm (fun j hj => hall.out j hj (by omega)) (fun h => absurd h hmo))
          by_cases hmc : cap = m
          · obtain rfl : m = cap := hmc.symm
            have hmc' : m ≤ m := Nat.le_refl m
            have hrest := hid (rest_none (wr := wr) hm (by omega) (A := (some ⟨g, 0, none⟩)))
            go_wp2_with fail
            go_quiet (fail)
            go_wp2_with fail
            go_quiet (fail)
            go_wp2_with (at_builtin; refine (Grow.lit0 9 (wr.drewN _)).appendAll strT (some ⟨g, 0, none⟩) 0 _ wr.heap.size ((O.drop m).map sv) (by simp <;> omega) (fun e => by cases e) (hrest.out _ _) (all_one _) (by simp <;> omega) rfl _ _ rfl rfl rfl ?_; intro v1 w1 hg1 _ hv1)
            have hv1 : v1 ≠ .slice none 0 0 := fun e => by cases (hv1.1 e).1
            obtain ⟨g2, c2, cur2, hv2, hgb2, hblk2, hnc2, hcm2, hcz2, htk2⟩ := hg1.some_ hv1
            have hB : Below wr.heap.size wr w1 := ⟨hg1.2.os, hg1.2.tape, hg1.2.output, hg1.2.size, hg1.2.block⟩
            have ho1 := hid (hg.out.below hB (Nat.le_refl _))
            have hc1 := (hB.cell (p := ad.add k) (by rw [add_block]; have := hg.out.2.size; omega)).trans hc
            have hgw : g < wr.heap.size := (Array.getElem?_eq_some_iff.1 hblk).1
            have hrd2 := hid hg1.1
            simp only [List.nil_append, List.length_map, List.length_drop, Nat.sub_eq_zero_of_le hnc] at hv2
            subst hv2
            have hgb2 : wr.heap.size ≤ g2 := hgb2
            have hst := hid (hst.out.trans hins.out)
            have hsz1 := hB.size
            have hws := hg.out.2.size
            skip
            have hT0 := ho1.out.1
            rw [List.length_map] at hT0
            have hT1 := own_take (k := m) hT0 hm (by simp)
            have hT1 := hid (fun (o : Obj) => hT1.drew.alloc o)
            have hrd2 := hrd2.out
            rw [List.nil_append] at hrd2
            have hR := hid (fun (w3 : World) (o : Obj) (h3 : (w1.drew.alloc o).grownBy w3 (some g)) => rest_keep hrd2 (o := o) h3 (by omega))
            clear hrd2 hT0
            have hlm : (List.map sv (O.take m)).length = m := by rw [List.length_map, List.length_take]; omega
            have hlm := hid hlm
            clear hc t0 hins hrest hg1 hv1 hall hcell hblk hblk2 htk htk2 hcz hcz2 hg
            go_wp2_with fail
            go_region_law (first | (refine step_own strT rfl (.tmp 53) (.tmp 58) rfl w.heap.size (.slice (some ⟨g, 0, none⟩) m m) ((O.take m).map sv) rfl (by rw [hlm.out, List.map_take]; exact hT1.out _) ⟨w1.heap.size, 0, none⟩ 1 1 [sv x] rfl rfl (one_cell w1.drew (sv x) _) (one_one x) (by rw [hlm.out]; omega) (by simp <;> omega) ?_; intro v3 w3 hown3 hgb3 hnn3) | (refine step_own strT rfl (.tmp 59) (.tmp 60) rfl w.heap.size v3 ((O.take m).map sv ++ [sv x]) rfl (by rw [List.length_append]; exact hown3) ⟨g2, 0, none⟩ 0 c2 ((O.drop m).map sv) rfl (by simp <;> omega) (hR.out _ _ hgb3) (all_one _) (by rw [List.length_append, hlm.out]; simp <;> omega) (by have := hgb3.size; simp at this; omega) ?_; intro v4 w4 hown4 hgb4 hnn4))
            obtain ⟨hn4, hg4⟩ := sort_step ho1.out.2 hgb hgb3 hown3 hgb4 hown4
            clear hown3 hown4 hgb3 hgb4 hnn3 hnn4
            go_wp2_with fail
            exact ⟨⟨k + 1, hlt, by go_num, hn4, by rw [hst.out]; exact hg4⟩, by simp [Go.RowKit.intOf]; omega⟩
          · have hmc0 : ¬ cap = m := hmc
            have hrest := hid (rest_none (wr := wr) hm (by omega) (A := (some ⟨g, m, none⟩)))
            go_wp2_with fail
            go_quiet (fail)
            go_wp2_with fail
            go_quiet (fail)
            go_wp2_with (at_builtin; refine (Grow.lit0 9 (wr.drewN _)).appendAll strT (some ⟨g, m, none⟩) (O.length - m) (cap - m) wr.heap.size ((O.drop m).map sv) (by simp) (fun e => by cases e) (hrest.out _ _) (all_one _) (by simp <;> omega) rfl _ _ rfl rfl rfl ?_; intro v1 w1 hg1 _ hv1)
            have hv1 : v1 ≠ .slice none 0 0 := fun e => by cases (hv1.1 e).1
            obtain ⟨g2, c2, cur2, hv2, hgb2, hblk2, hnc2, hcm2, hcz2, htk2⟩ := hg1.some_ hv1
            have hB : Below wr.heap.size wr w1 := ⟨hg1.2.os, hg1.2.tape, hg1.2.output, hg1.2.size, hg1.2.block⟩
            have ho1 := hid (hg.out.below hB (Nat.le_refl _))
            have hc1 := (hB.cell (p := ad.add k) (by rw [add_block]; have := hg.out.2.size; omega)).trans hc
            have hgw : g < wr.heap.size := (Array.getElem?_eq_some_iff.1 hblk).1
            have hrd2 := hid hg1.1
            simp only [List.nil_append, List.length_map, List.length_drop] at hv2 hnc2
            subst hv2
            have hgb2 : wr.heap.size ≤ g2 := hgb2
            have hst := hid (hst.out.trans hins.out)
            have hsz1 := hB.size
            have hws := hg.out.2.size
            have hmc' : m ≤ cap := by omega
            have hT0 := ho1.out.1
            rw [List.length_map] at hT0
            have hT1 := own_take (k := m) hT0 hm (by simp)
            have hT1 := hid (fun (o : Obj) => hT1.drew.alloc o)
            have hrd2 := hrd2.out
            rw [List.nil_append] at hrd2
            have hR := hid (fun (w3 : World) (o : Obj) (h3 : (w1.drew.alloc o).grownBy w3 (some g)) => rest_keep hrd2 (o := o) h3 (by omega))
            clear hrd2 hT0
            have hlm : (List.map sv (O.take m)).length = m := by rw [List.length_map, List.length_take]; omega
            have hlm := hid hlm
            clear hc t0 hins hrest hg1 hv1 hall hcell hblk hblk2 htk htk2 hcz hcz2 hg
            go_wp2_with fail
            go_region_law (first | (refine step_own strT rfl (.tmp 53) (.tmp 58) rfl w.heap.size (.slice (some ⟨g, 0, none⟩) m cap) ((O.take m).map sv) rfl (by rw [hlm.out, List.map_take]; exact hT1.out _) ⟨w1.heap.size, 0, none⟩ 1 1 [sv x] rfl rfl (one_cell w1.drew (sv x) _) (one_one x) (by rw [hlm.out]; omega) (by simp <;> omega) ?_; intro v3 w3 hown3 hgb3 hnn3) | (refine step_own strT rfl (.tmp 59) (.tmp 60) rfl w.heap.size v3 ((O.take m).map sv ++ [sv x]) rfl (by rw [List.length_append]; exact hown3) ⟨g2, 0, none⟩ (O.length - m) c2 ((O.drop m).map sv) rfl (by simp) (hR.out _ _ hgb3) (all_one _) (by rw [List.length_append, hlm.out]; simp <;> omega) (by have := hgb3.size; simp at this; omega) ?_; intro v4 w4 hown4 hgb4 hnn4))
            obtain ⟨hn4, hg4⟩ := sort_step ho1.out.2 hgb hgb3 hown3 hgb4 hown4
            clear hown3 hown4 hgb3 hgb4 hnn3 hnn4
            go_wp2_with fail
            exact ⟨⟨k + 1, hlt, by go_num, hn4, by rw [hst.out]; exact hg4⟩, by simp [Go.RowKit.intOf]; omega⟩
    · obtain rfl : k = L.length := by omega
      rw [List.take_of_length_le (Nat.le_refl _)] at hg
      go_wp2_with fail
      go_ret
      exact ⟨_, rfl, hg⟩
end Go.Proofs.YtklcbagddijkgaaGreat.C2
