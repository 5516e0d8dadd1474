/- Statements and programs in the exact laws' words. -/
import Derived.Test.YtnmomlaimffonaaGreatZS8a
import Derived.Test.YtnmomlaimffonaaGreatZS8f
set_option maxRecDepth 100000
namespace Go.Proofs.YtnmomlaimffonaaGreat.Gd
open Go.RowKit Go.Lib Com Mem YtnmomlaimffonaaGreat.Os Tr YtnmomlaimffonaaGreat.Nm
def PgAt (w : World) (B : Nat) (v : Value) (p : Pg) : Prop := ∃ cs : List Value, v = .agg cs.toArray ∧ Rd8 w B cs p.d
theorem PgAt.go {w w' : World} {v : Value} {p : Pg} (h : PgAt w w.heap.size v p) (hb : Below w.heap.size w w') : PgAt w' w'.heap.size v p := by
  obtain ⟨cs, e, hr⟩ := h
  exact ⟨cs, e, hr.go hb⟩
theorem PgAt.form {w : World} {B : Nat} {v : Value} {p : Pg} (h : PgAt w B v p) : ∃ A l c Bb lb cb, v = .agg #[.slice A l c, .slice Bb lb cb] := by
  obtain ⟨cs, rfl, hr⟩ := h
  obtain ⟨A, c, Bb, cb, rows, rfl, _⟩ := pg_inv hr
  exact ⟨_, _, _, _, _, _, rfl⟩
def OwnP (lo hi : Nat) (w : World) (v : Value) (p : Pg) : Prop := ∃ cs : List Value, v = .agg cs.toArray ∧ OwnD w (Iv lo hi) cs p.d
theorem OwnP.same {lo hi : Nat} {w w' : World} {v : Value} {p : Pg} (h : OwnP lo hi w v p) (hs : Same lo hi w w') : OwnP lo hi w' v p := by
  obtain ⟨cs, e, hr⟩ := h
  exact ⟨cs, e, OwnD.same hr fun g hg => hs g hg.1 hg.2⟩
theorem OwnP.at_ {lo hi : Nat} {w : World} {v : Value} {p : Pg} (h : OwnP lo hi w v p) : PgAt w w.heap.size v p := by
  obtain ⟨cs, e, hr⟩ := h
  exact ⟨cs, e, OwnD.rd hr⟩
theorem OwnP.form {lo hi : Nat} {w : World} {v : Value} {p : Pg} (h : OwnP lo hi w v p) : ∃ A l c Bb lb cb, v = .agg #[.slice A l c, .slice Bb lb cb] := h.at_.form
theorem box_blk2 (w : World) (A : Option Addr) (l c : Nat) (Bb : Option Addr) (lb cb : Nat) (ty : TypeId) : Blk (w.alloc (.cells #[.slice A l c, .slice Bb lb cb] ty)) w.heap.size ty [.slice A l c, .slice Bb lb cb] := Blk.new w ty _
def szL8 (L : List St) : Nat := L.length + szDL (dl L)
def szP8 (p : Pg) : Nat := szDR p.d
theorem szP8_body (p : Pg) : szL8 p.body ≤ szP8 p := by unfold szP8 szL8; rw [szR_pg]; omega
theorem cnt_sz8 (L : List St) : cntL L ≤ szL8 L := by have := cnt_szDL L; unfold szL8; omega
theorem szP_over (p : Pg) (left : Int) (w : World) (v : Value) (h : PgAt w w.heap.size v p) (h0 : 0 ≤ left) (h1 : left ≤ 1048576) (h2 : left < ((szP8 p : Nat) : Int)) :
    Calls Tryz.prog 17 #[v, .int .i64 left] w fun e w' => e = .returned (.int .i64 (-1)) ∧ Below w.heap.size w w' := by
  obtain ⟨cs, rfl, hr⟩ := h
  exact (szPg p left cs w hr h0 h1).mono fun e w' h => ⟨h.1.trans (by unfold szAns; rw [if_neg (by unfold szP8 at h2; omega)]), h.2⟩
theorem szP_fit (p : Pg) (left : Int) (w : World) (v : Value) (h : PgAt w w.heap.size v p) (h0 : 0 ≤ left) (h1 : left ≤ 1048576) (h2 : ((szP8 p : Nat) : Int) ≤ left) :
    Calls Tryz.prog 17 #[v, .int .i64 left] w fun e w' => e = .returned (.int .i64 (left - ((szP8 p : Nat) : Int))) ∧ Below w.heap.size w w' := by
  obtain ⟨cs, rfl, hr⟩ := h
  exact (szPg p left cs w hr h0 h1).mono fun e w' h => ⟨h.1.trans (by unfold szAns; rw [if_pos (by unfold szP8 at h2; omega)]; rfl), h.2⟩
theorem toP_own (p : Pg) (w1 : World) (v : Value) (h : PgAt w1 w1.heap.size v p) (hz : szP8 p ≤ 1048576) :
    Calls Tryz.prog 18 #[v] w1 fun e w' => ∃ r, e = .returned r ∧ OwnP w1.heap.size w'.heap.size w' r p ∧ Below w1.heap.size w1 w' := by
  obtain ⟨cs, rfl, hr⟩ := h
  exact (toPg p cs w1 hr hz).mono fun e w' ⟨cs', e1, o, hb⟩ => ⟨_, e1, ⟨cs', rfl, o⟩, hb⟩
theorem eqP_own {lo hi lo' hi' : Nat} {v v' : Value} {p : Pg} (w : World) (h : OwnP lo hi w v p) (h' : OwnP lo' hi' w v' p) :
    Calls Tryz.prog 21 #[v, v'] w fun e w' => e = .returned (.bool true) ∧ Below w.heap.size w w' := by
  obtain ⟨cs, rfl, hr⟩ := h.at_
  obtain ⟨cs', rfl, hr'⟩ := h'.at_
  exact eqPg p cs cs' w hr hr'
end Go.Proofs.YtnmomlaimffonaaGreat.Gd
