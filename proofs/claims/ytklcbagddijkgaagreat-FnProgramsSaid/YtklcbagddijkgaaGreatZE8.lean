/- Statements and programs in the exact laws' words. -/
import Derived.Test.YtklcbagddijkgaaGreatZSt1
import Derived.Test.YtklcbagddijkgaaGreatZS8a
import Derived.Test.YtklcbagddijkgaaGreatZS8c
import Derived.Test.YtklcbagddijkgaaGreatZS8f
set_option maxRecDepth 100000
namespace Go.Proofs.YtklcbagddijkgaaGreat.Gd
open Go.RowKit Go.Lib Go.Proofs.YtklcbagddijkgaaGreat.Com Go.Proofs.YtklcbagddijkgaaGreat.Mem Go.Proofs.YtklcbagddijkgaaGreat.Os Go.Proofs.YtklcbagddijkgaaGreat.Tr Go.Proofs.YtklcbagddijkgaaGreat.Nm

/-- a list of statements of the call's own -/
def OwnL (lo hi : Nat) (w : World) (v : Value) (L : List St) : Prop := OwnD w (Iv lo hi) [v] [.sl 1 (dl L)]
theorem OwnL.same {lo hi : Nat} {w w' : World} {v : Value} {L : List St} (h : OwnL lo hi w v L) (hs : Same lo hi w w') : OwnL lo hi w' v L := OwnD.same h fun g hg => hs g hg.1 hg.2
theorem OwnL.row {lo hi : Nat} {w : World} {v : Value} {L : List St} (h : OwnL lo hi w v L) : ∃ A c rows, v = .slice A L.length c ∧ Row w w.heap.size 1 A (dl L) rows ∧ L.length ≤ maxI := by
  obtain ⟨A, c, r, rows, e, hk, hl, _⟩ := (OwnD.rd h).sl_
  injection e with e _
  rw [dl_len] at *
  exact ⟨A, c, rows, e, hk, hl⟩
/-- a program, read -/
def PgAt (w : World) (B : Nat) (v : Value) (p : Pg) : Prop := ∃ cs : List Value, v = .agg cs.toArray ∧ Rd8 w B cs p.d
theorem PgAt.go {w w' : World} {v : Value} {p : Pg} (h : PgAt w w.heap.size v p) (hb : Below w.heap.size w w') : PgAt w' w'.heap.size v p := by
  obtain ⟨cs, e, hr⟩ := h
  exact ⟨cs, e, hr.go hb⟩
theorem PgAt.form {w : World} {B : Nat} {v : Value} {p : Pg} (h : PgAt w B v p) : ∃ A l c Bb lb cb, v = .agg #[.slice A l c, .slice Bb lb cb] := by
  obtain ⟨cs, rfl, hr⟩ := h
  obtain ⟨A, c, Bb, cb, rows, rfl, _⟩ := pg_inv hr
  exact ⟨_, _, _, _, _, _, rfl⟩
/-- a program of the call's own -/
def OwnP (lo hi : Nat) (w : World) (v : Value) (p : Pg) : Prop := ∃ cs : List Value, v = .agg cs.toArray ∧ OwnD w (Iv lo hi) cs p.d
theorem OwnP.same {lo hi : Nat} {w w' : World} {v : Value} {p : Pg} (h : OwnP lo hi w v p) (hs : Same lo hi w w') : OwnP lo hi w' v p := by
  obtain ⟨cs, e, hr⟩ := h
  exact ⟨cs, e, OwnD.same hr fun g hg => hs g hg.1 hg.2⟩
theorem OwnP.at_ {lo hi : Nat} {w : World} {v : Value} {p : Pg} (h : OwnP lo hi w v p) : PgAt w w.heap.size v p := by
  obtain ⟨cs, e, hr⟩ := h
  exact ⟨cs, e, OwnD.rd hr⟩
theorem OwnP.form {lo hi : Nat} {w : World} {v : Value} {p : Pg} (h : OwnP lo hi w v p) : ∃ A l c Bb lb cb, v = .agg #[.slice A l c, .slice Bb lb cb] := h.at_.form
theorem box_blk2 (w : World) (A : Option Addr) (l c : Nat) (Bb : Option Addr) (lb cb : Nat) (ty : TypeId) : Blk (w.alloc (.cells #[.slice A l c, .slice Bb lb cb] ty)) w.heap.size ty [.slice A l c, .slice Bb lb cb] := Blk.new w ty _
/-- what the laws measure -/
def szL8 (L : List St) : Nat := L.length + szDL (dl L)
def szP8 (p : Pg) : Nat := szDR p.d
theorem szP8_body (p : Pg) : szL8 p.body ≤ szP8 p := by unfold szP8 szL8; rw [szR_pg]; omega
theorem cnt_sz8 (L : List St) : cntL L ≤ szL8 L := by have := cnt_szDL L; unfold szL8; omega
theorem scountL_own {lo hi : Nat} {v : Value} {L : List St} (w : World) (h : OwnL lo hi w v L) (hz : szL8 L ≤ 1048576) : Calls Tryz.prog 10 #[v] w fun e w' => e = .returned (.int .i64 (cntL L)) ∧ Below w.heap.size w w' := by
  obtain ⟨A, c, rows, rfl, hk, hl⟩ := h.row
  have := cnt_sz8 L
  exact scountS _ L rfl (by omega) A c rows w hk
theorem sdepthL_own {lo hi : Nat} {v : Value} {L : List St} (w : World) (h : OwnL lo hi w v L) (hz : szL8 L ≤ 1048576) : Calls Tryz.prog 12 #[v] w fun e w' => e = .returned (.int .i64 (depL L)) ∧ Below w.heap.size w w' := by
  obtain ⟨A, c, rows, rfl, hk, hl⟩ := h.row
  have := cnt_sz8 L
  exact sdepS _ L rfl (by omega) A c rows w hk
theorem svalidP_own {lo hi : Nat} {v : Value} {p : Pg} (w : World) (h : OwnP lo hi w v p) (hz : szP8 p ≤ 1048576) : Calls Tryz.prog 7 #[v] w fun e w' => e = .returned (.bool (okP p)) ∧ Below w.heap.size w w' := by
  obtain ⟨cs, rfl, hr⟩ := h.at_
  have h1 := szP8_body p
  have h2 := cnt_sz8 p.body
  have h3 := ex_szDL p.body
  exact svalidP p (by unfold szL8 at h1; omega) (by omega) cs w hr
theorem sassigned_own {lo hi : Nat} {v : Value} {L : List St} (w : World) (h : OwnL lo hi w v L) (hz : szL8 L ≤ 1048576) :
    Calls Tryz.prog 16 #[v] w fun e w' => ∃ r, e = .returned r ∧ OwnS w.heap.size w'.heap.size w' r (sortU (asgL L)) ∧ Below w.heap.size w w' := by
  obtain ⟨A, c, rows, rfl, hk, hl⟩ := h.row
  have := cnt_sz8 L
  exact sassigned L (by omega) hl A c rows w hk
end Go.Proofs.YtklcbagddijkgaaGreat.Gd
