/- Chapter 8's draws: statements. -/
import Derived.Test.YtklcbagddijkgaaGreatDoorZEr8
import Derived.Test.YtklcbagddijkgaaGreatDoorZS8a
import Derived.Test.YtklcbagddijkgaaGreatDoorZDr4
import Derived.Test.YtklcbagddijkgaaGreatDoorZSt1
import Derived.Test.YtklcbagddijkgaaGreatDoorZNix
set_option maxRecDepth 100000
namespace Go.Proofs.YtklcbagddijkgaaGreatDoor.Gd
open Go.RowKit Go.Lib Go.Proofs.YtklcbagddijkgaaGreatDoor.Com Go.Proofs.YtklcbagddijkgaaGreatDoor.Mem Go.Proofs.YtklcbagddijkgaaGreatDoor.Cur Go.Proofs.YtklcbagddijkgaaGreatDoor.Os Go.Proofs.YtklcbagddijkgaaGreatDoor.Tr Go.Proofs.YtklcbagddijkgaaGreatDoor.Dr Go.Proofs.YtklcbagddijkgaaGreatDoor.Pl

/-- a statement, read -/
theorem rd_st {w : World} {B : Nat} {k ek en : Int} {s en' : List UInt8} {A Bb C : Option Addr} {l c cb cc : Nat} {e : T} {bs es : List St} {rb rc : Nat → List Value} (hs : s.length ≤ maxI) (hx : Ex w B (nv ek en en' A l c) e)
    (hb : Row w B 1 Bb (dl bs) rb) (h1 : bs.length ≤ maxI) (h2 : bs.length ≤ cb) (he : Row w B 1 C (dl es) rc) (h3 : es.length ≤ maxI) (h4 : es.length ≤ cc) : Rd8 w B (sc k s ek en en' A l c Bb bs.length cb C es.length cc) (St.mk k s e bs es).d := by
  rw [St.d_mk]
  have f1 : Rd8 w B [.slice C es.length cc] [.sl 1 (dl es)] := by
    rw [← dl_len es]
    exact .sl rc (by rw [dl_len]; exact ⟨h3, h4⟩) he.cell he.kid .nil
  have f2 : Rd8 w B [.slice Bb bs.length cb, .slice C es.length cc] [.sl 1 (dl bs), .sl 1 (dl es)] := by
    rw [← dl_len bs]
    exact .sl rb (by rw [dl_len]; exact ⟨h1, h2⟩) hb.cell hb.kid f1
  exact .i (.s hs (.x hx f2))
theorem row_none (w : World) (B : Nat) : Row w B 1 none (dl []) (fun _ => []) := ⟨fun j hj => by simp [dl] at hj, fun j e he => by simp [dl] at he⟩
end Go.Proofs.YtklcbagddijkgaaGreatDoor.Gd
