/- The model's EqualProgram. -/
import Derived.Test.YtjglllpemhkkdaaGreatDoorZSt1
import Derived.Test.YtjglllpemhkkdaaGreatDoorZTr
import Derived.Lib.QuietBelow
import Derived.BigQuiet
import Derived.Test.YtjglllpemhkkdaaGreatDoorZTr6
import Derived.Test.YtjglllpemhkkdaaGreatDoorZMp
set_option maxRecDepth 100000
namespace Go.Proofs.YtjglllpemhkkdaaGreatDoor.Gd
open Go.RowKit Go.Lib Go.Sort Com Mem YtjglllpemhkkdaaGreatDoor.Os Tr

mutual
def sameSt : St → St → Bool
  | .mk k s e bs es, .mk k' s' e' bs' es' => (k == k') && ((s == s') && (eqT e e' && (sameSL bs bs' && sameSL es es')))
def sameSL : List St → List St → Bool
  | [], [] => true
  | a :: r, b :: q => sameSt a b && sameSL r q
  | [], _ :: _ => false
  | _ :: _, [] => false
end
theorem sameSL_at : ∀ {xs bs : List St}, xs.length = bs.length → (∀ (j : Nat) (a b : St), xs[j]? = some a → bs[j]? = some b → sameSt a b = true) → sameSL xs bs = true
  | [], [], _, _ => by rw [sameSL]
  | a :: r, b :: q, hl, h => by
    rw [sameSL, Bool.and_eq_true]
    exact ⟨h 0 a b rfl rfl, sameSL_at (by simpa using hl) fun j x y hx hy => h (j + 1) x y (by simpa using hx) (by simpa using hy)⟩
  | [], _ :: _, hl, _ => by simp at hl
  | _ :: _, [], hl, _ => by simp at hl
theorem sameSt_mk (k k' : Int) (s s' : List UInt8) (e e' : T) (bs bs' es es' : List St) : sameSt (.mk k s e bs es) (.mk k' s' e' bs' es') = ((k == k') && ((s == s') && (eqT e e' && (sameSL bs bs' && sameSL es es')))) := by rw [sameSt]
theorem sameSt_self (t : St) : sameSt t t = true := by
  induction t using St.ind with
  | h k s e bs es h1 h2 =>
    rw [sameSt_mk, eqT_self]
    have a1 : sameSL bs bs = true := sameSL_at rfl fun j a b ha hb => by
      rw [ha] at hb; cases hb
      exact h1 a (List.mem_of_getElem? ha)
    have a2 : sameSL es es = true := sameSL_at rfl fun j a b ha hb => by
      rw [ha] at hb; cases hb
      exact h2 a (List.mem_of_getElem? ha)
    simp [a1, a2]
theorem sameSL_self (L : List St) : sameSL L L = true := sameSL_at rfl fun j a b ha hb => by
  rw [ha] at hb; cases hb; exact sameSt_self a
def sameP (p q : Pg) : Bool := decide (p.vs = q.vs) && sameSL p.body q.body
theorem sameP_self (p : Pg) : sameP p p = true := by unfold sameP; rw [sameSL_self]; simp
theorem sneq_of {a b : List UInt8} (q : Bool) (h : (a == b) = q) : (a != b) = !q := by unfold bne; rw [h]
open Ow YtjglllpemhkkdaaGreatDoor.Nm C2

end Go.Proofs.YtjglllpemhkkdaaGreatDoor.Gd
