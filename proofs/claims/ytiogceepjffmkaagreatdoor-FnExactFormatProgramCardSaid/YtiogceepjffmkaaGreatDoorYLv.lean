/- The levels of operators; the model's table of them. -/
import Derived.Test.YtiogceepjffmkaaGreatDoorYS8a
import Derived.Test.YtiogceepjffmkaaGreatDoorYS8f
import Derived.Test.YtiogceepjffmkaaGreatDoorYShelf
set_option maxHeartbeats 400000
set_option maxRecDepth 100000
namespace Go.Proofs.YtiogceepjffmkaaGreatDoor.Tk
open Go.RowKit Go.Lib Go.Sort Com Mem YtiogceepjffmkaaGreatDoor.Os
def opsOf : Nat → List Int
  | 1 => [8]
  | 2 => [7]
  | 3 => [5, 6]
  | 4 => [1, 2]
  | 5 => [3, 4]
  | _ => []
theorem opsOf_few (l : Nat) : (opsOf l).length ≤ 8 := by
  unfold opsOf
  split <;> simp
theorem lev7 (w : World) (I J : TypeId) (o0 : Obj) (r1 r2 r3 r4 r5 top : List Value) {W : World} (hW : W = ((((((w.alloc o0).alloc (.cells r1.toArray I)).alloc (.cells r2.toArray I)).alloc (.cells r3.toArray I)).alloc (.cells r4.toArray I)).alloc (.cells r5.toArray I)).alloc (.cells top.toArray J)) :
    Below w.heap.size w W ∧ Blk W (w.heap.size + 1) I r1 ∧ Blk W (w.heap.size + 1 + 1) I r2 ∧ Blk W (w.heap.size + 1 + 1 + 1) I r3 ∧ Blk W (w.heap.size + 1 + 1 + 1 + 1) I r4 ∧ Blk W (w.heap.size + 1 + 1 + 1 + 1 + 1) I r5 ∧ Blk W (w.heap.size + 1 + 1 + 1 + 1 + 1 + 1) J top := by
  subst hW
  have e1 := Blk.new (w.alloc o0) I r1
  have e2 := Blk.new ((w.alloc o0).alloc (.cells r1.toArray I)) I r2
  have e3 := Blk.new (((w.alloc o0).alloc (.cells r1.toArray I)).alloc (.cells r2.toArray I)) I r3
  have e4 := Blk.new ((((w.alloc o0).alloc (.cells r1.toArray I)).alloc (.cells r2.toArray I)).alloc (.cells r3.toArray I)) I r4
  have e5 := Blk.new (((((w.alloc o0).alloc (.cells r1.toArray I)).alloc (.cells r2.toArray I)).alloc (.cells r3.toArray I)).alloc (.cells r4.toArray I)) I r5
  have e6 := Blk.new ((((((w.alloc o0).alloc (.cells r1.toArray I)).alloc (.cells r2.toArray I)).alloc (.cells r3.toArray I)).alloc (.cells r4.toArray I)).alloc (.cells r5.toArray I)) J top
  simp only [size_alloc'] at e1 e2 e3 e4 e5 e6
  refine ⟨?_, ((((e1.alloc _).alloc _).alloc _).alloc _).alloc _, (((e2.alloc _).alloc _).alloc _).alloc _, ((e3.alloc _).alloc _).alloc _, (e4.alloc _).alloc _, e5.alloc _, e6⟩
  have g := fun (v : World) (o : Obj) (h : Below w.heap.size w v) => h.alloc h.size o
  exact g _ _ (g _ _ (g _ _ (g _ _ (g _ _ (g _ _ (g _ _ (Below.refl _ _)))))))
theorem levs_any (w : World) : Calls Tryz.prog 190 #[] w fun e w' => ∃ B, e = .returned (.slice (some ⟨B, 0, none⟩) 6 6) ∧ Below w.heap.size w w' ∧
    ∀ l, 1 ≤ l → l ≤ 5 → ∃ b, w'.cell? ⟨B, l, none⟩ = some (.slice (some ⟨b, 0, none⟩) (opsOf l).length (opsOf l).length) ∧ Rd w' w'.heap.size (some ⟨b, 0, none⟩) ((opsOf l).map (Value.int .i64)) ∧ w.heap.size ≤ b := by
  go_enter Tryz.func190, Tryz.ntmps190
  go_wp2_with fail
  go_ret
  obtain ⟨hb, e1, e2, e3, e4, e5, e6⟩ := lev7 w 3 138 (.cells #[] 3) [.int .i64 8] [.int .i64 7] [.int .i64 5, .int .i64 6] [.int .i64 1, .int .i64 2] [.int .i64 3, .int .i64 4]
    [.slice (some ⟨w.heap.size, 0, none⟩) 0 0, .slice (some ⟨w.heap.size + 1, 0, none⟩) 1 1, .slice (some ⟨w.heap.size + 1 + 1, 0, none⟩) 1 1, .slice (some ⟨w.heap.size + 1 + 1 + 1, 0, none⟩) 2 2, .slice (some ⟨w.heap.size + 1 + 1 + 1 + 1, 0, none⟩) 2 2, .slice (some ⟨w.heap.size + 1 + 1 + 1 + 1 + 1, 0, none⟩) 2 2] rfl
  refine ⟨_, rfl, hb, fun l h1 h2 => ?_⟩
  have hl : l = 1 ∨ l = 2 ∨ l = 3 ∨ l = 4 ∨ l = 5 := by omega
  rcases hl with rfl | rfl | rfl | rfl | rfl
  · exact ⟨_, e6.cell 1, e1.rd.more e1.lt, by omega⟩
  · exact ⟨_, e6.cell 2, e2.rd.more e2.lt, by omega⟩
  · exact ⟨_, e6.cell 3, e3.rd.more e3.lt, by omega⟩
  · exact ⟨_, e6.cell 4, e4.rd.more e4.lt, by omega⟩
  · exact ⟨_, e6.cell 5, e5.rd.more e5.lt, by omega⟩
end Go.Proofs.YtiogceepjffmkaaGreatDoor.Tk
set_option maxRecDepth 100000
namespace Go.Proofs.YtiogceepjffmkaaGreatDoor.Gd
open Go.RowKit Go.Lib Com Mem YtiogceepjffmkaaGreatDoor.Os Tr YtiogceepjffmkaaGreatDoor.Nm
def PgAt (w : World) (B : Nat) (v : Value) (p : Pg) : Prop := ∃ cs : List Value, v = .agg cs.toArray ∧ Rd8 w B cs p.d
theorem PgAt.go {w w' : World} {v : Value} {p : Pg} (h : PgAt w w.heap.size v p) (hb : Below w.heap.size w w') : PgAt w' w'.heap.size v p := by
  obtain ⟨cs, e, hr⟩ := h
  exact ⟨cs, e, hr.go hb⟩
theorem PgAt.form {w : World} {B : Nat} {v : Value} {p : Pg} (h : PgAt w B v p) : ∃ A l c Bb lb cb, v = .agg #[.slice A l c, .slice Bb lb cb] := by
  obtain ⟨cs, rfl, hr⟩ := h
  obtain ⟨A, c, Bb, cb, rows, rfl, _⟩ := pg_inv hr
  exact ⟨_, _, _, _, _, _, rfl⟩
def OwnP (lo hi : Nat) (w : World) (v : Value) (p : Pg) : Prop := ∃ cs : List Value, v = .agg cs.toArray ∧ OwnD w (Iv lo hi) cs p.d
theorem OwnP.same {lo hi : Nat} {w w' : World} {v : Value} {p : Pg} (h : OwnP lo hi w v p) (hs : Same lo hi w w') : OwnP lo hi w' v p := by
  obtain ⟨cs, e, hr⟩ := h
  exact ⟨cs, e, OwnD.same hr fun g hg => hs g hg.1 hg.2⟩
theorem OwnP.at_ {lo hi : Nat} {w : World} {v : Value} {p : Pg} (h : OwnP lo hi w v p) : PgAt w w.heap.size v p := by
  obtain ⟨cs, e, hr⟩ := h
  exact ⟨cs, e, OwnD.rd hr⟩
theorem OwnP.form {lo hi : Nat} {w : World} {v : Value} {p : Pg} (h : OwnP lo hi w v p) : ∃ A l c Bb lb cb, v = .agg #[.slice A l c, .slice Bb lb cb] := h.at_.form
theorem box_blk2 (w : World) (A : Option Addr) (l c : Nat) (Bb : Option Addr) (lb cb : Nat) (ty : TypeId) : Blk (w.alloc (.cells #[.slice A l c, .slice Bb lb cb] ty)) w.heap.size ty [.slice A l c, .slice Bb lb cb] := Blk.new w ty _
def szL8 (L : List St) : Nat := L.length + szDL (dl L)
def szP8 (p : Pg) : Nat := szDR p.d
theorem szP8_body (p : Pg) : szL8 p.body ≤ szP8 p := by unfold szP8 szL8; rw [szR_pg]; omega
theorem cnt_sz8 (L : List St) : cntL L ≤ szL8 L := by have := cnt_szDL L; unfold szL8; omega
theorem szP_over (p : Pg) (left : Int) (w : World) (v : Value) (h : PgAt w w.heap.size v p) (h0 : 0 ≤ left) (h1 : left ≤ 1048576) (h2 : left < ((szP8 p : Nat) : Int)) :
    Calls Tryz.prog 16 #[v, .int .i64 left] w fun e w' => e = .returned (.int .i64 (-1)) ∧ Below w.heap.size w w' := by
  obtain ⟨cs, rfl, hr⟩ := h
  exact (szPg p left cs w hr h0 h1).mono fun e w' h => ⟨h.1.trans (by unfold szAns; rw [if_neg (by unfold szP8 at h2; omega)]), h.2⟩
theorem szP_fit (p : Pg) (left : Int) (w : World) (v : Value) (h : PgAt w w.heap.size v p) (h0 : 0 ≤ left) (h1 : left ≤ 1048576) (h2 : ((szP8 p : Nat) : Int) ≤ left) :
    Calls Tryz.prog 16 #[v, .int .i64 left] w fun e w' => e = .returned (.int .i64 (left - ((szP8 p : Nat) : Int))) ∧ Below w.heap.size w w' := by
  obtain ⟨cs, rfl, hr⟩ := h
  exact (szPg p left cs w hr h0 h1).mono fun e w' h => ⟨h.1.trans (by unfold szAns; rw [if_pos (by unfold szP8 at h2; omega)]; rfl), h.2⟩
theorem toP_own (p : Pg) (w1 : World) (v : Value) (h : PgAt w1 w1.heap.size v p) (hz : szP8 p ≤ 1048576) :
    Calls Tryz.prog 17 #[v] w1 fun e w' => ∃ r, e = .returned r ∧ OwnP w1.heap.size w'.heap.size w' r p ∧ Below w1.heap.size w1 w' := by
  obtain ⟨cs, rfl, hr⟩ := h
  exact (toPg p cs w1 hr hz).mono fun e w' ⟨cs', e1, o, hb⟩ => ⟨_, e1, ⟨cs', rfl, o⟩, hb⟩
theorem eqP_own {lo hi lo' hi' : Nat} {v v' : Value} {p : Pg} (w : World) (h : OwnP lo hi w v p) (h' : OwnP lo' hi' w v' p) :
    Calls Tryz.prog 18 #[v, v'] w fun e w' => e = .returned (.bool true) ∧ Below w.heap.size w w' := by
  obtain ⟨cs, rfl, hr⟩ := h.at_
  obtain ⟨cs', rfl, hr'⟩ := h'.at_
  exact eqPg p cs cs' w hr hr'
end Go.Proofs.YtiogceepjffmkaaGreatDoor.Gd
set_option maxRecDepth 100000
namespace Go.Proofs.YtiogceepjffmkaaGreatDoor.L2a
open Go.RowKit Go.Lib Com Mem Lh C2
theorem idx_from (L : List (List UInt8)) (l : List UInt8) : ∀ i : Nat, Lib.idxFromS (L.map fun x => (⟨x.toArray⟩ : ByteArray)) ⟨l.toArray⟩ i = if ixOf L l < 0 then -1 else ixOf L l + i := by
  induction L with
  | nil => intro i; simp [Lib.idxFromS, ixOf]
  | cons x r ih =>
    intro i
    by_cases h : x = l
    · subst h
      have e : ixOf (x :: r) x = 0 := by simp [ixOf]
      rw [e]; simp [Lib.idxFromS]
    · have h' : ¬ ((⟨x.toArray⟩ : ByteArray) = ⟨l.toArray⟩) := fun e => h (by simpa using e)
      have e : ixOf (x :: r) l = if ixOf r l < 0 then -1 else ixOf r l + 1 := by simp [ixOf, h]
      rw [List.map_cons, Lib.idxFromS, if_neg h', ih, e]
      by_cases h2 : ixOf r l < 0
      · simp [h2]
      · rw [if_neg h2, if_neg h2, if_neg (by omega)]; omega
theorem idx_bridge (L : List (List UInt8)) (l : List UInt8) : Lib.idxOfS (L.map fun x => (⟨x.toArray⟩ : ByteArray)) ⟨l.toArray⟩ = ixOf L l := by
  have h := idx_from L l 0
  have hb := ixOf_bd L l
  unfold Lib.idxOfS
  rw [h]
  split <;> omega
theorem index_any (A : Option Addr) (c B : Nat) (L : List (List UInt8)) (l : List UInt8) (w : World) (h : Rd w B A (L.map sv)) (hA : ∀ ad, A = some ad → ad = ⟨ad.block, 0, none⟩) (hn : L.length ≤ 9223372036854775807) :
    Calls Tryz.prog 132 #[.slice A L.length c, .string ⟨l.toArray⟩] w fun e w' => e = .returned (.int .i64 (ixOf L l)) ∧ w = w' := by
  have hc : Calls Tryz.prog 169 #[.slice A L.length c, .string ⟨l.toArray⟩] w fun e w' => e = .returned (.int .i64 (ixOf L l)) ∧ w' = w := by
    by_cases h0 : L = []
    · subst h0
      have := Tryz.slices_Index_string_empty A c ⟨l.toArray⟩ w
      have e := idx_bridge [] l
      rw [List.map_nil] at e
      rw [e] at this
      exact this
    · obtain ⟨ad, rfl, _, hcs⟩ := h (by simpa using h0)
      have had := hA ad rfl
      generalize ad.block = g at *
      subst had
      have hc := Tryz.slices_Index_string g 0 L.length c (L.map fun x => (⟨x.toArray⟩ : ByteArray)) ⟨l.toArray⟩ w (by simp) hn (fun j hj => by
        rw [List.length_map] at hj
        have := hcs j (sv L[j]) (by simp [hj])
        have e : (⟨g, 0, none⟩ : Addr).add j = ⟨g, 0 + j, none⟩ := by unfold Addr.add; split <;> simp_all
        rw [← e, this]
        simp [hj])
      rw [List.take_of_length_le (by simp), idx_bridge] at hc
      exact hc
  have hc := hid hc
  go_enter Tryz.func132, Tryz.ntmps132
  go_wp2_with fail
  refine hc.out.mono ?_
  rintro e w' ⟨rfl, rfl⟩
  go_wp2_with fail
  go_ret
  exact ⟨rfl, rfl⟩
end Go.Proofs.YtiogceepjffmkaaGreatDoor.L2a
