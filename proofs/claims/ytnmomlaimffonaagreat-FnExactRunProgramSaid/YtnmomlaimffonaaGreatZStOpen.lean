/- Arguments that are lists of statements or programs. -/
import Derived.Test.YtnmomlaimffonaaGreatZGdOpen
import Derived.Test.YtnmomlaimffonaaGreatZSt1
set_option maxRecDepth 100000
namespace Go.Proofs.YtnmomlaimffonaaGreat.Gd
open Go.ChangeShapes Go.WideShapes Go.ChangeAt Go.RowKit Close Mem Tr
theorem st_of {ds : List D} {ks : List K} (h : Ty ks ds) : (ks = sh 1 → ∃ t : St, ds = t.d) ∧ (ks = [.i, .s, .x, .sl 1, .sl 1].drop 1 → ∃ s e bs es, ds = [.s s, .x e, .sl 1 (dl bs), .sl 1 (dl es)]) ∧ (ks = [.x, .sl 1, .sl 1] → ∃ e bs es, ds = [.x e, .sl 1 (dl bs), .sl 1 (dl es)]) ∧ (ks = [.sl 1, .sl 1] → ∃ bs es, ds = [.sl 1 (dl bs), .sl 1 (dl es)]) ∧ (ks = [.sl 1] → ∃ L, ds = [.sl 1 (dl L)]) ∧ (ks = [] → ds = []) := by
  have fam : ∀ l : List (List D), (∀ e ∈ l, ∃ t : St, e = t.d) → ∃ L, l = dl L := fun l => by
    induction l with
    | nil => intro _; exact ⟨[], rfl⟩
    | cons a r ih =>
      intro h
      obtain ⟨t, rfl⟩ := h a (by simp)
      obtain ⟨L, rfl⟩ := ih fun e he => h e (by simp [he])
      exact ⟨t :: L, rfl⟩
  induction h with
  | nil => exact ⟨(fun h => by cases h), (fun h => by cases h), (fun h => by cases h), (fun h => by cases h), (fun h => by cases h), fun _ => rfl⟩
  | i r ih =>
    refine ⟨fun h => ?_, (fun h => by cases h), (fun h => by cases h), (fun h => by cases h), (fun h => by cases h), (fun h => by cases h)⟩
    injection h with _ h2
    obtain ⟨s, e, bs, es, rfl⟩ := ih.2.1 h2
    exact ⟨.mk _ s e bs es, (St.d_mk _ _ _ _ _).symm⟩
  | b r ih => exact ⟨(fun h => by cases h), (fun h => by cases h), (fun h => by cases h), (fun h => by cases h), (fun h => by cases h), (fun h => by cases h)⟩
  | s r ih =>
    refine ⟨(fun h => by cases h), fun h => ?_, (fun h => by cases h), (fun h => by cases h), (fun h => by cases h), (fun h => by cases h)⟩
    injection h with _ h2
    obtain ⟨e, bs, es, rfl⟩ := ih.2.2.1 h2
    exact ⟨_, e, bs, es, rfl⟩
  | x r ih =>
    refine ⟨(fun h => by cases h), (fun h => by cases h), fun h => ?_, (fun h => by cases h), (fun h => by cases h), (fun h => by cases h)⟩
    injection h with _ h2
    obtain ⟨bs, es, rfl⟩ := ih.2.2.2.1 h2
    exact ⟨_, bs, es, rfl⟩
  | ss r ih => exact ⟨(fun h => by cases h), (fun h => by cases h), (fun h => by cases h), (fun h => by cases h), (fun h => by cases h), (fun h => by cases h)⟩
  | is r ih => exact ⟨(fun h => by cases h), (fun h => by cases h), (fun h => by cases h), (fun h => by cases h), (fun h => by cases h), (fun h => by cases h)⟩
  | sl hl r ihl ih =>
    refine ⟨(fun h => by cases h), (fun h => by cases h), (fun h => by cases h), fun h => ?_, fun h => ?_, (fun h => by cases h)⟩
    · injection h with h1 h2
      injection h1 with h1
      subst h1
      obtain ⟨L, rfl⟩ := fam _ fun e he => (ihl e he).1 rfl
      obtain ⟨M, rfl⟩ := ih.2.2.2.2.1 h2
      exact ⟨L, M, rfl⟩
    · injection h with h1 h2
      injection h1 with h1
      subst h1
      obtain ⟨L, rfl⟩ := fam _ fun e he => (ihl e he).1 rfl
      obtain rfl := ih.2.2.2.2.2 h2
      exact ⟨L, rfl⟩
abbrev U1 : Nat → Prop := fun n => n = 1
def tyLaw : Nat → TypeId
  | 1 => 103
  | _ => 0
set_option maxRecDepth 100000 in
theorem stAt : ∀ n, U1 n → StructAt Tryz.prog U1 tyLaw (tyLaw n) (sh n) := fun n hn => by
  subst hn
  obtain ⟨g0, g1, g2, g3, F⟩ := fourL
  refine ⟨_, Tryz.underlying103, ?_, by kernel_rfl⟩
  refine ⟨rfl, ⟨Tryz.underlying3, by kernel_rfl⟩, rfl, ⟨Tryz.underlying9, by kernel_rfl⟩, rfl, ⟨_, _, _, g0, g1, g2, g3, F⟩, rfl, ⟨rfl, Tryz.underlying39, by kernel_rfl, by kernel_rfl⟩, rfl, ⟨rfl, Tryz.underlying39, by kernel_rfl, by kernel_rfl⟩, trivial⟩
set_option maxRecDepth 100000 in
theorem open_pgL {H : Type} {enc : TypeId × Value → H} {W : World} {base : Nat} {sp : Nat → Bool} {v : Value} {d : DataW H} {p : List MemPlace}
    (hv : Value.okWide Tryz.prog W .any base 41 v) (h : DataW.Trod enc Tryz.prog W 0 sp true 41 v d p) :
    ∃ (p : Pg) (cs : List Value), v = .agg cs.toArray ∧ Rd8 W W.heap.size cs p.d := by
  have hS : StructAt Tryz.prog U1 tyLaw 41 [.ss, .sl 1] :=
    ⟨_, Tryz.underlying41, ⟨rfl, ⟨_, Tryz.underlying24, Tryz.underlying9, by kernel_rfl, by kernel_rfl⟩, rfl, ⟨rfl, Tryz.underlying39, by kernel_rfl, by kernel_rfl⟩, trivial⟩, by kernel_rfl⟩
  obtain ⟨fs, hu, _⟩ := id hS
  obtain ⟨cs, hcs, _⟩ := okWide_struct hu hv
  subst hcs
  obtain ⟨n, hn⟩ := h
  obtain ⟨ds, ht, hr, _⟩ := open_struct (fun m _ => open_sub stAt m) hS hn
  cases ht with
  | @ss V _ _ r =>
    obtain ⟨L, rfl⟩ := (st_of r).2.2.2.2.1 rfl
    exact ⟨⟨V, L⟩, _, rfl, hr⟩
end Go.Proofs.YtnmomlaimffonaaGreat.Gd
