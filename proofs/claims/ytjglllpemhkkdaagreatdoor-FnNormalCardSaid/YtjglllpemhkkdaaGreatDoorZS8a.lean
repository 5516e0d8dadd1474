/- The model's CountStmts, BlockDepth, l8Left. -/
import Derived.Test.YtjglllpemhkkdaaGreatDoorZSt1
import Derived.Lib.QuietBelow
import Derived.BigQuiet
import Derived.Test.YtjglllpemhkkdaaGreatDoorZC3a
import Derived.Test.YtjglllpemhkkdaaGreatDoorZMp
set_option maxRecDepth 100000
namespace Go.Proofs.YtjglllpemhkkdaaGreatDoor.Gd
open Go.RowKit Go.Lib Go.Sort Com Mem YtjglllpemhkkdaaGreatDoor.Os Tr

mutual
def depSt : St → Nat
  | .mk _ _ _ bs es => Nat.max (if bs.isEmpty = true then 0 else depL bs) (if es.isEmpty = true then 0 else depL es)
def depL : List St → Nat
  | [] => 1
  | a :: r => Nat.max (1 + depSt a) (depL r)
end
theorem depL_pos (L : List St) : 1 ≤ depL L := by
  induction L with
  | nil => simp [depL]
  | cons a r ih => simp only [depL]; exact Nat.le_trans ih (Nat.le_max_right _ _)
theorem dep_cnt : ∀ (N : Nat) (L : List St), cntL L = N → depL L ≤ 1 + cntL L := by
  intro N
  induction N using Nat.strongRecOn with
  | ind N ih =>
    intro L hN
    have hs : ∀ a ∈ L, depSt a ≤ cntSt a := fun a ha => by
      have hm := cntSt_mem ha
      obtain ⟨k, s, e, bs, es⟩ := a
      simp only [cntSt] at hm
      have h1 := ih (cntL bs) (by omega) bs rfl
      have h2 := ih (cntL es) (by omega) es rfl
      simp only [depSt, cntSt]
      refine Nat.max_le.2 ⟨?_, ?_⟩ <;> split <;> omega
    clear ih hN
    induction L with
    | nil => simp [depL]
    | cons a r ihr =>
      have h1 := hs a (by simp)
      have h2 := ihr fun b hb => hs b (by simp [hb])
      simp only [depL, cntL]
      refine Nat.max_le.2 ⟨by omega, by omega⟩

open YtjglllpemhkkdaaGreatDoor.Nm C2


mutual
def exSt : St → Nat
  | .mk _ _ e bs es => cntT e + exL bs + exL es
def exL : List St → Nat
  | [] => 0
  | a :: r => exSt a + exL r
end
theorem exSt_mk (k : Int) (s : List UInt8) (e : T) (bs es : List St) : exSt (.mk k s e bs es) = cntT e + exL bs + exL es := by rw [exSt]
theorem exSt_mem {L : List St} {a : St} (h : a ∈ L) : exSt a ≤ exL L := by
  induction L with
  | nil => cases h
  | cons b r ih =>
    simp only [exL]
    rcases List.mem_cons.1 h with rfl | h
    · omega
    · have := ih h; omega
theorem ex_szDL (L : List St) : exL L ≤ szDL (dl L) + L.length := by
  have hs : ∀ L : List St, (∀ a ∈ L, exSt a ≤ 1 + szDR a.d) → exL L ≤ L.length + szDL (dl L) := fun L hL => by
    induction L with
    | nil => simp [exL]
    | cons b r ih =>
      have := hL b (by simp)
      have := ih fun a ha => hL a (by simp [ha])
      simp only [exL, List.length_cons, dl, List.map_cons, szDL] at *
      omega
  have key : ∀ t : St, exSt t ≤ 1 + szDR t.d := fun t => by
    induction t using St.ind with
    | h k s e bs es h1 h2 =>
      have := hs bs h1
      have := hs es h2
      have := cnt_sz e
      rw [St.d_mk, szR_st, exSt_mk]
      simp only [dl, List.length_map] at *
      omega
  have := hs L fun a _ => key a
  omega

end Go.Proofs.YtjglllpemhkkdaaGreatDoor.Gd
