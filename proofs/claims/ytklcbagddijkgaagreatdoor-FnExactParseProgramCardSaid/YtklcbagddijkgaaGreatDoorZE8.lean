/- Statements and programs in the exact laws' words. -/
import Derived.Test.YtklcbagddijkgaaGreatDoorZSt1
import Derived.Test.YtklcbagddijkgaaGreatDoorZS8a
import Derived.Test.YtklcbagddijkgaaGreatDoorZS8f
set_option maxRecDepth 100000
namespace Go.Proofs.YtklcbagddijkgaaGreatDoor.Gd
open Go.RowKit Go.Lib Go.Proofs.YtklcbagddijkgaaGreatDoor.Com Go.Proofs.YtklcbagddijkgaaGreatDoor.Mem Go.Proofs.YtklcbagddijkgaaGreatDoor.Os Go.Proofs.YtklcbagddijkgaaGreatDoor.Tr Go.Proofs.YtklcbagddijkgaaGreatDoor.Nm

/-- a list of statements of the call's own -/
def OwnL (lo hi : Nat) (w : World) (v : Value) (L : List St) : Prop := OwnD w (Iv lo hi) [v] [.sl 1 (dl L)]
theorem OwnL.same {lo hi : Nat} {w w' : World} {v : Value} {L : List St} (h : OwnL lo hi w v L) (hs : Same lo hi w w') : OwnL lo hi w' v L := OwnD.same h fun g hg => hs g hg.1 hg.2
theorem OwnL.row {lo hi : Nat} {w : World} {v : Value} {L : List St} (h : OwnL lo hi w v L) : ∃ A c rows, v = .slice A L.length c ∧ Row w w.heap.size 1 A (dl L) rows ∧ L.length ≤ maxI := by
  obtain ⟨A, c, r, rows, e, hk, hl, _⟩ := (OwnD.rd h).sl_
  injection e with e _
  rw [dl_len] at *
  exact ⟨A, c, rows, e, hk, hl⟩
/-- a program, read -/
def PgAt (w : World) (B : Nat) (v : Value) (p : Pg) : Prop := ∃ cs : List Value, v = .agg cs.toArray ∧ Rd8 w B cs p.d
theorem PgAt.go {w w' : World} {v : Value} {p : Pg} (h : PgAt w w.heap.size v p) (hb : Below w.heap.size w w') : PgAt w' w'.heap.size v p := by
  obtain ⟨cs, e, hr⟩ := h
  exact ⟨cs, e, hr.go hb⟩
theorem PgAt.form {w : World} {B : Nat} {v : Value} {p : Pg} (h : PgAt w B v p) : ∃ A l c Bb lb cb, v = .agg #[.slice A l c, .slice Bb lb cb] := by
  obtain ⟨cs, rfl, hr⟩ := h
  obtain ⟨A, c, Bb, cb, rows, rfl, _⟩ := pg_inv hr
  exact ⟨_, _, _, _, _, _, rfl⟩
/-- a program of the call's own -/
def OwnP (lo hi : Nat) (w : World) (v : Value) (p : Pg) : Prop := ∃ cs : List Value, v = .agg cs.toArray ∧ OwnD w (Iv lo hi) cs p.d
theorem OwnP.same {lo hi : Nat} {w w' : World} {v : Value} {p : Pg} (h : OwnP lo hi w v p) (hs : Same lo hi w w') : OwnP lo hi w' v p := by
  obtain ⟨cs, e, hr⟩ := h
  exact ⟨cs, e, OwnD.same hr fun g hg => hs g hg.1 hg.2⟩
theorem OwnP.at_ {lo hi : Nat} {w : World} {v : Value} {p : Pg} (h : OwnP lo hi w v p) : PgAt w w.heap.size v p := by
  obtain ⟨cs, e, hr⟩ := h
  exact ⟨cs, e, OwnD.rd hr⟩
theorem OwnP.form {lo hi : Nat} {w : World} {v : Value} {p : Pg} (h : OwnP lo hi w v p) : ∃ A l c Bb lb cb, v = .agg #[.slice A l c, .slice Bb lb cb] := h.at_.form
end Go.Proofs.YtklcbagddijkgaaGreatDoor.Gd
