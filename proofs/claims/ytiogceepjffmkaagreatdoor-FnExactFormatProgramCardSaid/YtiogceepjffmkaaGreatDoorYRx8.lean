/- Reading the text of a valid program gives the program again: the tokens of a text. -/
import Derived.Test.YtiogceepjffmkaaGreatDoorYRp
import Derived.Test.YtiogceepjffmkaaGreatDoorYTx8
set_option maxRecDepth 100000
namespace Go.Proofs.YtiogceepjffmkaaGreatDoor.Gd
open Go.RowKit Go.Lib Num Mem Ch Tr Tk
inductive OkS (V : List (List UInt8)) : St → Prop
  | asg {s : List UInt8} {e : T} (hs : s ∈ V) (he : okT e = true) : OkS V (.mk 1 s e [] [])
  | emit {e : T} (he : okT e = true) : OkS V (.mk 4 [] e [] [])
  | loop {e : T} {bs : List St} (he : okT e = true) (hb : ∀ a ∈ bs, OkS V a) : OkS V (.mk 3 [] e bs [])
  | cond {e : T} {bs es : List St} (he : okT e = true) (hb : ∀ a ∈ bs, OkS V a) (hc : ∀ a ∈ es, OkS V a) : OkS V (.mk 2 [] e bs es)
theorem ixOf_mem {V : List (List UInt8)} {s : List UInt8} (h : 0 ≤ C2.ixOf V s) : s ∈ V := by
  by_cases hm : s ∈ V
  · exact hm
  · exact absurd h (by have := C2.ixOf_neg.2 hm; omega)
theorem okS_of {V : List (List UInt8)} (t : St) : okSt V t = true → OkS V t := by
  induction t using St.ind with
  | h k s e bs es ih1 ih2 =>
    intro h
    rw [okSt_mk] at h
    simp only [Bool.and_eq_true] at h
    obtain ⟨he, hb, hc, hk⟩ := h
    have he : okT e = true := by unfold okE8 at he; rw [Bool.and_eq_true] at he; exact he.1
    have all : ∀ L : List St, okSts V L = true → ∀ a ∈ L, okSt V a = true := fun L => by
      induction L with
      | nil => intro _ a ha; cases ha
      | cons b r ih =>
        intro h a ha
        rw [okSts, Bool.and_eq_true] at h
        rcases List.mem_cons.1 ha with rfl | ha
        · exact h.1
        · exact ih h.2 a ha
    have hb' : ∀ a ∈ bs, OkS V a := fun a ha => ih1 a ha (all bs hb a ha)
    have hc' : ∀ a ∈ es, OkS V a := fun a ha => ih2 a ha (all es hc a ha)
    have nil_of : ∀ L : List St, ((L.length : Int) == 0) = true → L = [] := fun L h => List.eq_nil_of_length_eq_zero (by have := beq_iff_eq.1 h; omega)
    unfold kindB at hk
    split at hk
    · rename_i h1
      subst h1
      simp only [Bool.and_eq_true, decide_eq_true_eq] at hk
      obtain ⟨h0, h2, h3⟩ := hk
      rw [nil_of bs h2, nil_of es h3]
      exact .asg (ixOf_mem h0) he
    · split at hk
      · rename_i h2
        subst h2
        rw [beq_iff_eq.1 hk]
        exact .cond he hb' hc'
      · split at hk
        · rename_i h3
          subst h3
          simp only [Bool.and_eq_true] at hk
          rw [beq_iff_eq.1 hk.1, nil_of es hk.2]
          exact .loop he hb'
        · split at hk
          · rename_i h4
            subst h4
            simp only [Bool.and_eq_true] at hk
            rw [beq_iff_eq.1 hk.1, nil_of bs hk.2.1, nil_of es hk.2.2]
            exact .emit he
          · cases hk
theorem okSs_of {V : List (List UInt8)} {L : List St} (h : okSts V L = true) : ∀ a ∈ L, OkS V a := by
  induction L with
  | nil => intro a ha; cases ha
  | cons b r ih =>
    intro a ha
    rw [okSts, Bool.and_eq_true] at h
    rcases List.mem_cons.1 ha with rfl | ha
    · exact okS_of _ h.1
    · exact ih h.2 a ha
theorem kw_name : NameS emitW ∧ NameS whileW ∧ NameS ifW ∧ NameS elseW ∧ NameS varsW := by
  refine ⟨⟨101, [109, 105, 116], rfl, by decide, by decide, by decide⟩, ⟨119, [104, 105, 108, 101], rfl, by decide, by decide, by decide⟩, ⟨105, [102], rfl, by decide, by decide, by decide⟩, ⟨101, [108, 115, 101], rfl, by decide, by decide, by decide⟩, ⟨118, [97, 114, 115], rfl, by decide, by decide, by decide⟩⟩
theorem ok_prog {p : Pg} (h : okP p = true) : (∀ x ∈ p.vs, C2.validB x = true) ∧ ∀ a ∈ p.body, OkS p.vs a := by
  unfold okP varsB at h
  simp only [Bool.and_eq_true, decide_eq_true_eq] at h
  obtain ⟨⟨hva, hv2, -⟩, hc8, -, hoks⟩ := h
  exact ⟨fun x hx => List.all_eq_true.1 hva x hx, okSs_of hoks⟩
end Go.Proofs.YtiogceepjffmkaaGreatDoor.Gd
