/- Chapter 2: the walks of the exact laws without results in memory. -/
import Derived.Test.YtklcbagddijkgaaGreatDoorZMp
import Derived.Test.YtklcbagddijkgaaGreatDoorZShelf
set_option maxRecDepth 100000
namespace Go.Proofs.YtklcbagddijkgaaGreatDoor.L2a
open Go.RowKit Go.Lib Go.Proofs.YtklcbagddijkgaaGreatDoor.Com Go.Proofs.YtklcbagddijkgaaGreatDoor.Mem Go.Proofs.YtklcbagddijkgaaGreatDoor.Lh Go.Proofs.YtklcbagddijkgaaGreatDoor.C2


theorem idx_from (L : List (List UInt8)) (l : List UInt8) : ∀ i : Nat, Lib.idxFromS (L.map fun x => (⟨x.toArray⟩ : ByteArray)) ⟨l.toArray⟩ i = if ixOf L l < 0 then -1 else ixOf L l + i := by
  induction L with
  | nil => intro i; simp [Lib.idxFromS, ixOf]
  | cons x r ih =>
    intro i
    by_cases h : x = l
    · subst h
      have e : ixOf (x :: r) x = 0 := by simp [ixOf]
      rw [e]; simp [Lib.idxFromS]
    · have h' : ¬ ((⟨x.toArray⟩ : ByteArray) = ⟨l.toArray⟩) := fun e => h (by simpa using e)
      have e : ixOf (x :: r) l = if ixOf r l < 0 then -1 else ixOf r l + 1 := by simp [ixOf, h]
      rw [List.map_cons, Lib.idxFromS, if_neg h', ih, e]
      by_cases h2 : ixOf r l < 0
      · simp [h2]
      · rw [if_neg h2, if_neg h2, if_neg (by omega)]; omega
theorem idx_bridge (L : List (List UInt8)) (l : List UInt8) : Lib.idxOfS (L.map fun x => (⟨x.toArray⟩ : ByteArray)) ⟨l.toArray⟩ = ixOf L l := by
  have h := idx_from L l 0
  have hb := ixOf_bd L l
  unfold Lib.idxOfS
  rw [h]
  split <;> omega
set_option maxHeartbeats 400000 in
theorem index_any (A : Option Addr) (c B : Nat) (L : List (List UInt8)) (l : List UInt8) (w : World) (h : Rd w B A (L.map sv)) (hA : ∀ ad, A = some ad → ad = ⟨ad.block, 0, none⟩) (hn : L.length ≤ 9223372036854775807) :
    Calls Tryz.prog 190 #[.slice A L.length c, .string ⟨l.toArray⟩] w fun e w' => e = .returned (.int .i64 (ixOf L l)) ∧ w = w' := by
  have hc : Calls Tryz.prog 208 #[.slice A L.length c, .string ⟨l.toArray⟩] w fun e w' => e = .returned (.int .i64 (ixOf L l)) ∧ w' = w := by
    by_cases h0 : L = []
    · subst h0
      have := Tryz.slices_Index_string_empty A c ⟨l.toArray⟩ w
      have e := idx_bridge [] l
      rw [List.map_nil] at e
      rw [e] at this
      exact this
    · obtain ⟨ad, rfl, _, hcs⟩ := h (by simpa using h0)
      have had := hA ad rfl
      generalize ad.block = g at *
      subst had
      have hc := Tryz.slices_Index_string g 0 L.length c (L.map fun x => (⟨x.toArray⟩ : ByteArray)) ⟨l.toArray⟩ w (by simp) hn (fun j hj => by
        rw [List.length_map] at hj
        have := hcs j (sv L[j]) (by simp [hj])
        have e : (⟨g, 0, none⟩ : Addr).add j = ⟨g, 0 + j, none⟩ := by unfold Addr.add; split <;> simp_all
        rw [← e, this]
        simp [hj])
      rw [List.take_of_length_le (by simp), idx_bridge] at hc
      exact hc
  have hc := hid hc
  go_enter Tryz.func190, Tryz.ntmps190
  go_wp2_with fail
  refine hc.out.mono ?_
  rintro e w' ⟨rfl, rfl⟩
  go_wp2_with fail
  go_ret
  exact ⟨rfl, rfl⟩
end Go.Proofs.YtklcbagddijkgaaGreatDoor.L2a
