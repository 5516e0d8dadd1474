/- What RunProgram answers; results' blocks; appends amid regions that draw their order. -/
import Derived.Test.YtnmomlaimffonaaGreatZXe11
import Derived.Test.YtnmomlaimffonaaGreatZOc11
import Derived.Test.YtnmomlaimffonaaGreatZNis
set_option maxRecDepth 100000
namespace Go.Proofs.YtnmomlaimffonaaGreat.Rn
open Go.RowKit Go.Lib Go.Sort Com Mem YtnmomlaimffonaaGreat.Os Ow Tr Gd C2 C3 Oc
def wB (S : List Int) (n : Nat) : Bool := S.all isW && ((S.length : Int) == (n : Int))
theorem wB_iff {S : List Int} {n : Nat} (h : wB S n = true) : (∀ x ∈ S, isW x = true) ∧ S.length = n := by
  unfold wB at h
  rw [Bool.and_eq_true, List.all_eq_true, beq_iff_eq] at h
  exact ⟨h.1, by omega⟩
def runO (p : Pg) (S : List Int) (fuel : Int) : Oc :=
  if okP p = true ∧ wB S p.vs.length = true ∧ inB fuel 0 400 = true then ⟨(run p.vs fuel.toNat p.body S).st, (run p.vs fuel.toNat p.body S).sg, (run p.vs fuel.toNat p.body S).ou, ((run p.vs fuel.toNat p.body S).co : Int)⟩ else ⟨0, [], [], 0⟩
theorem runO_no {p : Pg} {S : List Int} {fuel : Int} (h : okP p = false ∨ wB S p.vs.length = false ∨ inB fuel 0 400 = false) : runO p S fuel = ⟨0, [], [], 0⟩ := by
  unfold runO
  rw [if_neg]
  rintro ⟨h1, h2, h3⟩
  rw [h1, h2, h3] at h
  rcases h with h | h | h <;> cases h
theorem runO_yes {p : Pg} {S : List Int} {f : Nat} (h1 : okP p = true) (h2 : wB S p.vs.length = true) (h3 : inB f 0 400 = true) : runO p S f = ⟨(run p.vs f p.body S).st, (run p.vs f p.body S).sg, (run p.vs f p.body S).ou, ((run p.vs f p.body S).co : Int)⟩ := by
  unfold runO
  rw [if_pos ⟨h1, h2, h3⟩, Int.toNat_natCast]
theorem own_of_row {w : World} {lo e n : Nat} {v : Value} {xs : List Value} (h : w.ownsRow lo e 1 v n xs) : Own e lo w.heap.size w v xs := by
  have hl : xs.length = n := by have := h.1; omega
  rcases h.2 with ⟨hv, hn⟩ | ⟨g, c, cur, hv, hb, hblk, hnc, hcm, _, ht⟩
  · have hx : xs = [] := List.eq_nil_of_length_eq_zero (by omega)
    subst hx
    exact ⟨none, 0, [], hv, Nat.le_refl _, by unfold maxLen; omega, fun _ => ⟨rfl, rfl⟩, (fun ad h => by cases h), rfl⟩
  · refine ⟨_, c, cur.toList, by rw [hl]; exact hv, by omega, hcm, (fun h => by cases h), (fun ad h => by cases h; exact ⟨rfl, hb, (Array.getElem?_eq_some_iff.1 hblk).1, by unfold Blk; simpa using hblk⟩), ?_⟩
    rw [hl]; simpa using ht
theorem own_nil (lo hi : Nat) (w : World) : OwnI lo hi w (.slice none 0 0) [] := ⟨none, 0, [], rfl, Nat.le_refl _, by unfold maxLen; omega, fun _ => ⟨rfl, rfl⟩, (fun ad h => by cases h), rfl⟩
theorem step_all {P : Program} {t e by_ : Nat} {z : Value} (S : SlT P t e z by_) {W : World} {o : Oper} {a : Act} {ops : Array Oper} {K : Act → World → Prop} {Q : Exit → Act → World → Prop} {E : Prop} (hg : o.guard = none) (s x : Operand)
    (ho : o.op = .call { callee := .builtin .append, args := #[s, x], argTypes := #[t, t] }) (base : Nat) (v : Value) (xs : List Value) (hs : a.eval s = v) (hown : W.ownsRow base e 1 v xs.length xs)
    (A : Option Addr) (m c : Nat) (ys : List Value) (hx : a.eval x = .slice A m c) (hA : A = none → m = 0 ∧ c = 0) (hys : ys.length = m) (hc : Rd W W.heap.size A ys) (hone : ∀ u ∈ ys, u.oneCell' = true) (hl : xs.length + m < 1000000000000) (hbase : base ≤ W.heap.size)
    (hK : ∀ v' w', w'.ownsRow base e 1 v' (xs.length + m) (xs ++ ys) → W.grownBy w' v.ownBlock → K (a.put o.dst v') w') :
    if Region.wanted o (yielded ops a.tmps) = true then Oper.wp P o a W K Q else E := by
  cases A with
  | none =>
    obtain ⟨rfl, rfl⟩ := hA rfl
    have := List.eq_nil_of_length_eq_zero hys
    subst this
    obtain ⟨i0, hi, hz0, hz1, hz2⟩ := info_parts S.inf
    have hw : Region.wanted o (yielded ops a.tmps) = true := by simp [Region.wanted, hg]
    rw [if_pos hw]
    have hrun := run_append_owned_none (P := P) (w := W) base t o.type e i0 1 S.und hi v xs.length xs hown
    unfold Oper.wp
    simp [execOp, ho, resolve, invoke, builtin, hs, hx, hrun, Result.andThen]
    exact hK _ _ (by simpa using hown) (gb_refl _ _)
  | some ad =>
    refine step_own S hg s x ho base v xs hs hown ad m c ys hx hys (fun j u hj => ?_) hone hl hbase fun v' w' h1 h2 _ => hK v' w' h1 h2
    obtain ⟨ad', e1, _, h⟩ := hc (by intro e; subst e; simp at hj)
    cases e1
    exact h j u hj
theorem one_ivs (l : List Int) : ∀ u ∈ l.map iv, u.oneCell' = true := by
  intro u hu
  obtain ⟨x, _, rfl⟩ := List.mem_map.1 hu
  rfl
theorem fin_zero {w wb : World} {b : Nat} {z0 z1 z2 z3 : Value} (hB : Blk wb b 32 [z0, z1, z2, z3]) (hb : Below w.heap.size w wb) (hw : w.heap.size ≤ b) :
    Hid (Blk (putO wb b 0 (.slice none 0 0) (.slice none 0 0) 0) b 32 [.int .i64 0, .slice none 0 0, .slice none 0 0, .int .i64 0]) ∧ Hid (OwnOc w.heap.size (putO wb b 0 (.slice none 0 0) (.slice none 0 0) 0).heap.size (putO wb b 0 (.slice none 0 0) (.slice none 0 0) 0) (.agg #[.int .i64 0, .slice none 0 0, .slice none 0 0, .int .i64 0]) ⟨0, [], [], 0⟩) ∧ Hid (Below w.heap.size w (putO wb b 0 (.slice none 0 0) (.slice none 0 0) 0)) := by
  obtain ⟨h1, h2, _, h4⟩ := putO_at hB hb hw 0 (.slice none 0 0) (.slice none 0 0) 0
  exact ⟨hid h1, hid ⟨_, _, w.heap.size, rfl, Nat.le_refl _, h2.size, own_nil _ _ _, own_nil _ _ _⟩, hid h2⟩
theorem fin_run {lay : Lay} {ty : TypeId} {w we : World} {b g lo hi : Nat} {z : Ex1} {vS vO z0 z1 z2 z3 : Value} (hX : XAt lay ty we g lo hi z vS vO) (hB : Blk we b 32 [z0, z1, z2, z3]) (hb : Below w.heap.size w we) (hw : w.heap.size ≤ b) (hlo : b < lo) (hlh : lo ≤ hi) (s : Int) {o : Oc} (ho : o = ⟨s, z.sg, z.ou, (z.co : Int)⟩) :
    Hid (Blk (putO we b s vS vO z.co) b 32 [.int .i64 s, vS, vO, .int .i64 z.co]) ∧ Hid (OwnOc w.heap.size (putO we b s vS vO z.co).heap.size (putO we b s vS vO z.co) (.agg #[.int .i64 s, vS, vO, .int .i64 z.co]) o) ∧ Hid (Below w.heap.size w (putO we b s vS vO z.co)) := by
  subst ho
  obtain ⟨h1, h2, h3, h4⟩ := putO_at hB hb hw s vS vO z.co
  have htop := hX.top
  refine ⟨hid h1, hid ⟨_, _, hi, rfl, by omega, by rw [h4]; exact htop, ?_, ?_⟩, hid h2⟩
  · exact ((Own.same hX.st fun k h5 h6 => h3 k (by omega)).mono (by omega) (Nat.le_refl _))
  · have := own_of_row hX.ou
    rw [h4]
    exact Own.same this fun k h5 h6 => h3 k (by omega)
end Go.Proofs.YtnmomlaimffonaaGreat.Rn
set_option maxRecDepth 100000
namespace Go.Proofs.YtnmomlaimffonaaGreat.Gs
open Go.RowKit Go.Lib Go.Sort Com Mem YtnmomlaimffonaaGreat.Os Tr Im Ag Pl Kd Ow YtnmomlaimffonaaGreat.Nm C2
end Go.Proofs.YtnmomlaimffonaaGreat.Gs
