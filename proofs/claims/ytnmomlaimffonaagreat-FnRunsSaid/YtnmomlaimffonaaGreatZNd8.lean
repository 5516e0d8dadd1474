/- What a drawn list of statements holds: nodes of expressions and bytes of names, the measure. -/
import Derived.Test.YtnmomlaimffonaaGreatZS8a
import Derived.Test.YtnmomlaimffonaaGreatZKd
import Derived.Test.YtnmomlaimffonaaGreatZShelf
set_option maxHeartbeats 2000000
set_option maxRecDepth 100000
namespace Go.Proofs.YtnmomlaimffonaaGreat.Gd
open Go.RowKit Go.Lib Go.Sort Com Mem YtnmomlaimffonaaGreat.Os Tr
mutual
def nxSt : St → Nat
  | .mk _ s e bs es => cntT e + s.length + nxL bs + nxL es
def nxL : List St → Nat
  | [] => 0
  | a :: r => nxSt a + nxL r
end
theorem nxSt_mk (k : Int) (s : List UInt8) (e : T) (bs es : List St) : nxSt (.mk k s e bs es) = cntT e + s.length + nxL bs + nxL es := by rw [nxSt]
theorem ex_nx (L : List St) : exL L ≤ nxL L := by
  have hs : ∀ L : List St, (∀ a ∈ L, exSt a ≤ nxSt a) → exL L ≤ nxL L := fun L hL => by
    induction L with
    | nil => simp [exL]
    | cons b r ih =>
      have := hL b (by simp)
      have := ih fun a ha => hL a (by simp [ha])
      simp only [exL, nxL] at *
      omega
  have key : ∀ t : St, exSt t ≤ nxSt t := fun t => by
    induction t using St.ind with
    | h k s e bs es h1 h2 =>
      have := hs bs h1
      have := hs es h2
      rw [exSt_mk, nxSt_mk]
      omega
  exact hs L fun a _ => key a
end Go.Proofs.YtnmomlaimffonaaGreat.Gd
set_option maxRecDepth 100000
namespace Go.Proofs.YtnmomlaimffonaaGreat.Gx
open Go.RowKit Go.Lib Go.Sort Com Mem Im Ag Pl
abbrev ET : TypeId := 92
abbrev PT : TypeId := 199
theorem wideP : WideK Tryz.prog PT := ⟨_, Tryz.underlying199, fun _ _ => rfl⟩
theorem check_place (A : Option Addr) (n : Nat) (w : World) (em : Bool) : (Instr.checkKey em 10000 PT (encP (A, n))).run Tryz.prog w = .ok () w := by kernel_rfl
theorem sizeE : ∃ i, Tryz.prog.info? ET = some i ∧ i.size ≠ 0 := by
  have h : (Tryz.prog.info? ET).map (fun i => i.size) = some 4 := by kernel_rfl
  obtain ⟨i, hi, e⟩ := Option.map_eq_some_iff.1 h
  exact ⟨i, hi, by rw [e]; decide⟩
theorem part_P (x y : Value) (w : World) : (part 197 #[x, y] 0).run Tryz.prog w = .ok x w := by kernel_rfl
theorem part_N (x y : Value) (w : World) : (part 3 #[x, y] 1).run Tryz.prog w = .ok y w := by kernel_rfl
theorem fields_P : ∃ f g, (Tryz.prog.fieldsOf PT).toList = [f, g] ∧ f.name ≠ "_" ∧ f.type = 197 ∧ f.offset = 0 ∧ g.name ≠ "_" ∧ g.type = 3 ∧ g.offset = 1 := ⟨_, _, rfl, by decide, rfl, rfl, by decide, rfl, rfl⟩
theorem eq_placeD (d : Nat) {w : World} {k k' : Pk} (h : PtOk w k.1) (h' : PtOk w k'.1) : (Op.equalIn (d + 2) PT (encP k) (encP k')).run Tryz.prog w = .ok (decide (k' = k)) w := by
  obtain ⟨i, hi, hz⟩ := sizeE
  have hp : Tryz.prog.underlying 197 = some (.pointer ET) := Tryz.underlying197
  have hn : Tryz.prog.underlying 3 = some (.int .i64) := Tryz.underlying3
  have he := ptr_eq hp hi hz d h h'
  have he2 := int_eqIn (w := w) hn d (k.2 : Int) (k'.2 : Int)
  have hpd := pair_dec k.1 k'.1 k.2 k'.2
  rw [run_equalIn_struct w (d + 1) PT _ _ (by kernel_rfl) (by kernel_rfl)]
  obtain ⟨f, g, e1, e2, e3, e4, e5, e6, e7⟩ := fields_P
  rw [e1]
  unfold Op.eqFields
  rw [if_pos e2, e3, e4]
  simp only [Sem.run_bind, part_P, Result.andThen_ok, he]
  unfold Op.eqFields
  rw [if_pos e5, e6, e7]
  cases hd : decide (k.1 = k'.1) with
  | false =>
    rw [hd, Bool.false_and] at hpd
    rw [← hpd]
    simp
  | true =>
    rw [hd, Bool.true_and] at hpd
    rw [← hpd]
    simp only [Bool.not_true, Bool.false_eq_true, if_false, Sem.run_bind, part_N, Result.andThen_ok, he2]
    unfold Op.eqFields
    cases ((k.2 : Int) == (k'.2 : Int)) <;> simp
theorem eq_place {w : World} {k k' : Pk} (h : PtOk w k.1) (h' : PtOk w k'.1) : (Op.equal PT (encP k) (encP k')).run Tryz.prog w = .ok (decide (k' = k)) w := eq_placeD 9998 h h'
theorem bits_P (k : Pk) : ∀ n, Instr.sameBits (n + 1) (encP k) (encP k) = true := fun n => by simp [Instr.sameBits]
theorem dec_place {w : World} {k : Pk} {l : List (Pk × Value)} (h : PtOk w k.1) (hl : ∀ p ∈ l, PtOk w p.1.1) : Dec Tryz.prog encP PT w k l :=
  ⟨fun w em => check_place k.1 k.2 w em, fun p hp => eq_place h (hl p hp), bits_P k 9999⟩
theorem placeOf_any (A : Option Addr) (l c : Nat) (hA : l ≠ 0 → ∃ ad, A = some ad) (w : World) : Calls Tryz.prog 148 #[.slice A l c] w fun e w' => e = .returned (encP (if l = 0 then none else A, l)) ∧ Below w.heap.size w w' := by
  by_cases hl : l = 0
  · subst hl
    rw [if_pos rfl]
    go_enter Tryz.func148, Tryz.ntmps148
    go_wp2_with fail
    refine bodyPost_ret (results_cell_row Tryz.results148 _ _ w.heap.size PT _ (0, 0) _ rfl (heap_alloc_new w _) Tryz.underlying199 rfl (by kernel_rfl)) rfl ⟨rfl, (Below.refl _ _).alloc (Nat.le_refl _) _⟩
  · rw [if_neg hl]
    obtain ⟨ad, rfl⟩ := hA hl
    have t0 : ((l : Int) == 0) = false := beq_false_of_ne (by omega)
    have t1 : (0 : Int) < (l : Int) := by omega
    go_enter Tryz.func148, Tryz.ntmps148
    go_wp2_with fail
    refine bodyPost_ret (results_cell_row Tryz.results148 _ _ w.heap.size PT _ (0, 0) _ rfl (heap_alloc_new w _) Tryz.underlying199 rfl (by kernel_rfl)) rfl ⟨rfl, (Below.refl _ _).alloc (Nat.le_refl _) _⟩
open Tr Kd
end Go.Proofs.YtnmomlaimffonaaGreat.Gx
set_option maxRecDepth 100000
namespace Go.Proofs.YtnmomlaimffonaaGreat.L2a
open Go.RowKit Go.Lib Com Mem Lh C2
theorem idx_from (L : List (List UInt8)) (l : List UInt8) : ∀ i : Nat, Lib.idxFromS (L.map fun x => (⟨x.toArray⟩ : ByteArray)) ⟨l.toArray⟩ i = if ixOf L l < 0 then -1 else ixOf L l + i := by
  induction L with
  | nil => intro i; simp [Lib.idxFromS, ixOf]
  | cons x r ih =>
    intro i
    by_cases h : x = l
    · subst h
      have e : ixOf (x :: r) x = 0 := by simp [ixOf]
      rw [e]; simp [Lib.idxFromS]
    · have h' : ¬ ((⟨x.toArray⟩ : ByteArray) = ⟨l.toArray⟩) := fun e => h (by simpa using e)
      have e : ixOf (x :: r) l = if ixOf r l < 0 then -1 else ixOf r l + 1 := by simp [ixOf, h]
      rw [List.map_cons, Lib.idxFromS, if_neg h', ih, e]
      by_cases h2 : ixOf r l < 0
      · simp [h2]
      · rw [if_neg h2, if_neg h2, if_neg (by omega)]; omega
theorem idx_bridge (L : List (List UInt8)) (l : List UInt8) : Lib.idxOfS (L.map fun x => (⟨x.toArray⟩ : ByteArray)) ⟨l.toArray⟩ = ixOf L l := by
  have h := idx_from L l 0
  have hb := ixOf_bd L l
  unfold Lib.idxOfS
  rw [h]
  split <;> omega
theorem index_any (A : Option Addr) (c B : Nat) (L : List (List UInt8)) (l : List UInt8) (w : World) (h : Rd w B A (L.map sv)) (hA : ∀ ad, A = some ad → ad = ⟨ad.block, 0, none⟩) (hn : L.length ≤ 9223372036854775807) :
    Calls Tryz.prog 86 #[.slice A L.length c, .string ⟨l.toArray⟩] w fun e w' => e = .returned (.int .i64 (ixOf L l)) ∧ w = w' := by
  have hc : Calls Tryz.prog 106 #[.slice A L.length c, .string ⟨l.toArray⟩] w fun e w' => e = .returned (.int .i64 (ixOf L l)) ∧ w' = w := by
    by_cases h0 : L = []
    · subst h0
      have := Tryz.slices_Index_string_empty A c ⟨l.toArray⟩ w
      have e := idx_bridge [] l
      rw [List.map_nil] at e
      rw [e] at this
      exact this
    · obtain ⟨ad, rfl, _, hcs⟩ := h (by simpa using h0)
      have had := hA ad rfl
      generalize ad.block = g at *
      subst had
      have hc := Tryz.slices_Index_string g 0 L.length c (L.map fun x => (⟨x.toArray⟩ : ByteArray)) ⟨l.toArray⟩ w (by simp) hn (fun j hj => by
        rw [List.length_map] at hj
        have := hcs j (sv L[j]) (by simp [hj])
        have e : (⟨g, 0, none⟩ : Addr).add j = ⟨g, 0 + j, none⟩ := by unfold Addr.add; split <;> simp_all
        rw [← e, this]
        simp [hj])
      rw [List.take_of_length_le (by simp), idx_bridge] at hc
      exact hc
  have hc := hid hc
  go_enter Tryz.func86, Tryz.ntmps86
  go_wp2_with fail
  refine hc.out.mono ?_
  rintro e w' ⟨rfl, rfl⟩
  go_wp2_with fail
  go_ret
  exact ⟨rfl, rfl⟩
end Go.Proofs.YtnmomlaimffonaaGreat.L2a
