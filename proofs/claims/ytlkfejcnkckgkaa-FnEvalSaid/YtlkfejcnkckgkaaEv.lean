/- A value is a word, and depends on the variables that occur alone. -/
import Derived.Test.YtlkfejcnkckgkaaTr7
import Derived.Test.YtlkfejcnkckgkaaTr6
import Derived.Test.YtlkfejcnkckgkaaC3o
set_option maxRecDepth 100000
namespace Go.Proofs.Ytlkfejcnkckgkaa.Tr
open Go.RowKit Go.Lib Go.Sort Go.Proofs.Ytlkfejcnkckgkaa.Com Go.Proofs.Ytlkfejcnkckgkaa.Mem Go.Proofs.Ytlkfejcnkckgkaa.Os Go.Proofs.Ytlkfejcnkckgkaa.C2 Go.Proofs.Ytlkfejcnkckgkaa.C3 Go.Proofs.Ytlkfejcnkckgkaa.Nm

theorem bit_w (b : Bool) : isW (bit b) = true := by cases b <;> rfl
theorem opV_w {k x y : Int} (hx : 0 ≤ x) (hx2 : x < 4) (hy : 0 ≤ y) : isW (opV k x y) = true := by
  unfold opV
  repeat' split
  · exact isW_wrap _
  · exact isW_wrap _
  · exact isW_wrap _
  · rfl
  · have h1 : 0 ≤ x / y := Int.ediv_nonneg hx hy
    have h2 : x / y ≤ x := Int.ediv_le_self _ hx
    rw [isW_iff]; omega
  · exact bit_w _
  · exact bit_w _
  · exact bit_w _
  · exact bit_w _
  · rfl
theorem appV_w (k x y : Int) : isW (appV k x y) = true := opV_w (word_lo x) (word_hi x) (word_lo y)
theorem readV_w (L : List (List UInt8)) (S : List Int) (s : List UInt8) : isW (readV L S s) = true := by
  unfold readV
  split
  · exact isW_wrap _
  · rfl
theorem evalT_w (L : List (List UInt8)) (S : List Int) (t : T) (h : allT t = true) : isW (evalT L S t).1 = true := by
  obtain ⟨k, n, s, ks⟩ := t
  have hn : nodeB k n s ks.length = true := by rw [allT_mk] at h; simp only [Bool.and_eq_true] at h; exact h.2
  rcases node_cases hn with rfl | rfl | ⟨rfl, a, b, rfl⟩ | ⟨rfl, a, rfl⟩
  · rw [evalT_1]
    unfold nodeB at hn
    rw [if_pos rfl] at hn
    simp only [Bool.and_eq_true] at hn
    exact hn.1
  · rw [evalT_2]; exact readV_w _ _ _
  · rw [evalT_3]
    split
    · exact appV_w _ _ _
    · rfl
  · rw [evalT_4]
    split
    · exact bit_w _
    · rfl
theorem okT_all {t : T} (h : okT t = true) : allT t = true := by
  unfold okT at h; simp only [Bool.and_eq_true] at h; exact h.2.2
theorem evT_w (L : List (List UInt8)) (S : List Int) (t : T) : isW (evT L S t).1 = true := by
  unfold evT
  split
  · next h => exact evalT_w L S t (okT_all h)
  · rfl
theorem evalT_eq (L : List (List UInt8)) (S S' : List Int) (t : T) : allT t = true → (∀ s ∈ varsT t, readV L S s = readV L S' s) → evalT L S t = evalT L S' t := by
  induction t using T.ind with
  | h k n s ks ih =>
    intro h hv
    have hn : nodeB k n s ks.length = true := by rw [allT_mk] at h; simp only [Bool.and_eq_true] at h; exact h.2
    rcases node_cases hn with rfl | rfl | ⟨rfl, a, b, rfl⟩ | ⟨rfl, a, rfl⟩
    · rw [evalT_1, evalT_1]
    · rw [evalT_2, evalT_2, hv s (by rw [varsT_mk]; simp)]
    · have hab := allT_2 h
      rw [varsT_mk] at hv
      rw [evalT_3, evalT_3, ih a (by simp) hab.1 (fun x hx => hv x (by simp [varsK, hx])), ih b (by simp) hab.2 (fun x hx => hv x (by simp [varsK, hx]))]
    · have ha := allT_1 h
      rw [varsT_mk] at hv
      rw [evalT_4, evalT_4, ih a (by simp) ha (fun x hx => hv x (by simp [varsK, hx]))]
theorem evT_eq (L : List (List UInt8)) (S S' : List Int) (t : T) (hv : ∀ s ∈ varsT t, readV L S s = readV L S' s) : evT L S t = evT L S' t := by
  unfold evT
  split
  · next h => exact evalT_eq L S S' t (okT_all h) hv
  · rfl
theorem ixOf_hit {L : List (List UInt8)} {l : List UInt8} : ∀ k : Nat, ixOf L l = (k : Int) → ∃ h : k < L.length, L[k] = l := by
  induction L with
  | nil => intro k hk; simp [ixOf] at hk
  | cons x r ih =>
    intro k hk
    simp only [ixOf] at hk
    by_cases h : x = l
    · rw [if_pos h] at hk
      obtain rfl : k = 0 := by omega
      exact ⟨by simp, by simpa using h⟩
    · rw [if_neg h] at hk
      by_cases h2 : ixOf r l < 0
      · rw [if_pos h2] at hk; omega
      · rw [if_neg h2] at hk
        cases k with
        | zero => omega
        | succ m =>
          obtain ⟨h4, h5⟩ := ih m (by omega)
          exact ⟨by simp only [List.length_cons]; omega, by simpa using h5⟩
/-- where the states agree at the places of the names that occur -/
theorem readV_eq (L : List (List UInt8)) (S S' : List Int) (s : List UInt8) (hl : S'.length = S.length) (h : ∀ j (h1 : j < S.length) (h2 : j < L.length), L[j] = s → S'[j]'(by omega) = S[j]) : readV L S s = readV L S' s := by
  unfold readV
  rw [hl]
  split
  · next hb =>
    have hb' := hb
    simp only [inB, Bool.and_eq_true, decide_eq_true_eq] at hb'
    obtain ⟨h2, h3⟩ := ixOf_hit (L := L) (l := s) (ixOf L s).toNat (by omega)
    have h1 : (ixOf L s).toNat < S.length := by omega
    have := h _ h1 h2 h3
    rw [List.getD_eq_getElem?_getD, List.getD_eq_getElem?_getD, List.getElem?_eq_getElem h1, List.getElem?_eq_getElem (by omega : (ixOf L s).toNat < S'.length)]
    simp only [Option.getD_some]
    rw [this]
  · rfl
end Go.Proofs.Ytlkfejcnkckgkaa.Tr
