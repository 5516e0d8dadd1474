/- Numbers and their decimal texts: plain mathematics, no program. -/
import Derived.Lib.ItoaNum
import Derived.Lib.ItoaLen
import Derived.Test.YtklcbagddijkgaaGreatZCom
set_option maxRecDepth 100000
namespace Go.Proofs.YtklcbagddijkgaaGreat.Num
open Go.Lib

theorem snocInd {α : Type} {P : List α → Prop} (h0 : P []) (h1 : ∀ l c, P l → P (l ++ [c])) (l : List α) : P l := by
  have h : ∀ r : List α, P r.reverse := by
    intro r
    induction r with
    | nil => exact h0
    | cons x r ih => rw [List.reverse_cons]; exact h1 _ _ ih
  have := h l.reverse
  rwa [List.reverse_reverse] at this
theorem snocRec {α : Type} {P : List α → Prop} (l : List α) (nil : P []) (snoc : ∀ l c, P l → P (l ++ [c])) : P l := snocInd nil snoc l
theorem head?_app {α : Type} {l r : List α} (h : l ≠ []) : (l ++ r).head? = l.head? := by cases l with | nil => exact absurd rfl h | cons x l => rfl
def isDig (c : UInt8) : Bool := decide (48 ≤ c.toNat) && decide (c.toNat ≤ 57)
def rdFrom (n : Nat) (l : List UInt8) : Nat := l.foldl (fun n c => 10 * n + (c.toNat - 48)) n
def rd (l : List UInt8) : Nat := rdFrom 0 l

theorem rdFrom_snoc (n : Nat) (l : List UInt8) (c : UInt8) : rdFrom n (l ++ [c]) = 10 * rdFrom n l + (c.toNat - 48) := by
  simp [rdFrom]
theorem rd_snoc (l : List UInt8) (c : UInt8) : rd (l ++ [c]) = 10 * rd l + (c.toNat - 48) := rdFrom_snoc 0 l c

theorem isDig_bounds {c : UInt8} (h : isDig c = true) : 48 ≤ c.toNat ∧ c.toNat ≤ 57 := by simpa [isDig] using h
theorem isDig_mk {c : UInt8} (h1 : 48 ≤ c.toNat) (h2 : c.toNat ≤ 57) : isDig c = true := by simp [isDig, h1, h2]

theorem rd_lt (l : List UInt8) (h : l.all isDig = true) : rd l < 10 ^ l.length := by
  induction l using snocRec with
  | nil => simp [rd, rdFrom]
  | snoc l c ih =>
    rw [rd_snoc]
    simp only [List.all_append, List.all_cons, List.all_nil, Bool.and_true, Bool.and_eq_true] at h
    have := ih h.1
    have hb := isDig_bounds h.2
    simp only [List.length_append, List.length_cons, List.length_nil, Nat.pow_succ]
    omega

theorem decDigits_step {u : Nat} (h : ¬ u < 10) : decDigits u = decDigits (u / 10) ++ [UInt8.ofNat (48 + u % 10)] := by rw [decDigits, dif_neg h]

theorem toNat_dig (d : Nat) (h : d < 10) : (UInt8.ofNat (48 + d)).toNat = 48 + d := by
  simp [UInt8.toNat_ofNat']; omega

theorem decDigits_all (u : Nat) : (decDigits u).all isDig = true := by
  induction u using Nat.strongRecOn with
  | _ u ih =>
    by_cases h : u < 10
    · rw [decDigits_one h]; simp only [List.all_cons, List.all_nil, Bool.and_true]; apply isDig_mk <;> rw [toNat_dig u h] <;> omega
    · rw [decDigits_step h, List.all_append, ih (u / 10) (by omega)]
      simp only [List.all_cons, List.all_nil, Bool.and_true, Bool.true_and]
      apply isDig_mk <;> rw [toNat_dig _ (by omega)] <;> omega

theorem decDigits_ne (u : Nat) : decDigits u ≠ [] := by
  intro h; have := decDigits_length u; rw [h] at this; have := nDigits_pos u; simp at *; omega

theorem rd_decDigits (u : Nat) : rd (decDigits u) = u := by
  induction u using Nat.strongRecOn with
  | _ u ih =>
    by_cases h : u < 10
    · rw [decDigits_one h]; show 10 * 0 + _ = _; rw [toNat_dig u h]; omega
    · rw [decDigits_step h, rd_snoc, ih (u / 10) (by omega), toNat_dig _ (by omega)]; omega

/-- no leading zero, but for "0" itself -/
def plain (l : List UInt8) : Bool := l.all isDig && !l.isEmpty && (decide (l.length ≤ 1) || !(l.head? == some 48))

theorem decDigits_head (u : Nat) (h : 0 < u) : (decDigits u).head? ≠ some 48 := by
  induction u using Nat.strongRecOn with
  | _ u ih =>
    by_cases hu : u < 10
    · rw [decDigits_one hu]; simp only [List.head?_cons, ne_eq, Option.some.injEq]
      intro e; have := congrArg UInt8.toNat e; rw [toNat_dig u hu] at this; simp at this; omega
    · rw [decDigits_step hu, head?_app (decDigits_ne _)]; exact ih _ (by omega) (by omega)

theorem plain_decDigits (u : Nat) : plain (decDigits u) = true := by
  unfold plain
  rw [decDigits_all u]
  have hne := decDigits_ne u
  by_cases h : 0 < u
  · have := decDigits_head u h
    cases hd : decDigits u with
    | nil => exact absurd hd hne
    | cons x r => rw [hd] at this; simp at this; simp [this]
  · obtain rfl : u = 0 := by omega
    rw [decDigits_one (by omega)]; simp

theorem decDigits_rd (l : List UInt8) (h : plain l = true) : decDigits (rd l) = l := by
  induction l using snocRec with
  | nil => simp [plain] at h
  | snoc l c ih =>
    simp only [plain, List.all_append, List.all_cons, List.all_nil, Bool.and_true, Bool.and_eq_true, List.length_append, List.length_cons, List.length_nil] at h
    obtain ⟨⟨⟨h1, hc⟩, _⟩, h2⟩ := h
    have hb := isDig_bounds hc
    rw [rd_snoc]
    cases l with
    | nil =>
      have e : 10 * rd [] + (c.toNat - 48) = c.toNat - 48 := by simp [rd, rdFrom]
      rw [e, decDigits_one (by omega)]
      simp only [List.nil_append, List.cons.injEq, and_true]
      apply UInt8.toNat_inj.1; rw [toNat_dig _ (by omega)]; omega
    | cons x r =>
      have hp : plain (x :: r) = true := by
        simp only [plain, h1, List.isEmpty_cons, Bool.not_false, Bool.and_true, Bool.true_and, List.head?_cons]
        simp only [List.cons_append, List.head?_cons, List.length_cons, Bool.or_eq_true, decide_eq_true_eq] at h2 ⊢
        rcases h2 with h2 | h2
        · omega
        · exact Or.inr h2
      have hi := ih hp
      have hpos : 0 < rd (x :: r) := by
        rcases Nat.eq_zero_or_pos (rd (x :: r)) with h0 | h0
        · exfalso
          rw [h0, decDigits_one (by omega)] at hi
          have hx : x = 48 := by have := congrArg List.head? hi; simp at this; exact this.symm
          simp [hx, List.length_cons] at h2
        · exact h0
      rw [decDigits_step (by omega), show (10 * rd (x :: r) + (c.toNat - 48)) / 10 = rd (x :: r) by omega, hi,
        show (10 * rd (x :: r) + (c.toNat - 48)) % 10 = c.toNat - 48 by omega]
      congr 1
      simp only [List.cons.injEq, and_true]
      apply UInt8.toNat_inj.1; rw [toNat_dig _ (by omega)]; omega

/-- the digits of k, none for 0 -/
def digs (k : Nat) : List UInt8 := if k = 0 then [] else decDigits k
theorem digs_step {k : Nat} (h : k ≠ 0) : digs k = digs (k / 10) ++ [UInt8.ofNat (48 + k % 10)] := by
  unfold digs
  rw [if_neg h]
  by_cases h10 : k < 10
  · rw [if_pos (by omega), decDigits_one h10, Nat.mod_eq_of_lt h10]; rfl
  · rw [if_neg (by omega), decDigits_step h10]

theorem digs_len (k : Nat) (h : k ≠ 0) : (digs k).length = nDigits k := by unfold digs; rw [if_neg h, decDigits_length]
/-- what readDigits and l1Read answer for a text without a sign -/
def numOf (l : List UInt8) (most : Nat) : Option Nat := if plain l = true ∧ l.length ≤ most then some (rd l) else none
/-- what ParseInt answers -/
def intOf (l : List UInt8) (most : Nat) : Option Int :=
  match l with
  | 45 :: t => if plain t = true ∧ t.length ≤ most ∧ t ≠ [48] then some (-(rd t : Int)) else none
  | t => (numOf t most).map Int.ofNat

theorem itoa_minus {t : List UInt8} (hp : plain t = true) (h0 : t ≠ [48]) : itoa (-(rd t : Int)) = 45 :: t := by
  have hd := decDigits_rd t hp
  have hne : rd t ≠ 0 := by intro e; rw [e, decDigits_one (by omega)] at hd; exact h0 hd.symm
  unfold itoa
  rw [if_pos (by omega), Int.natAbs_neg, Int.natAbs_natCast, hd]
theorem itoa_minus_not {t : List UInt8} (h : ¬ (plain t = true ∧ t ≠ [48])) : itoa (-(rd t : Int)) ≠ 45 :: t := by
  intro e
  by_cases h0 : rd t = 0
  · rw [h0] at e
    have : itoa 0 = [48] := by unfold itoa; rw [if_neg (by omega)]; exact decDigits_one (by omega)
    rw [show (-((0 : Nat) : Int)) = 0 from rfl, this] at e
    have := congrArg List.head? e; simp at this
  · unfold itoa at e
    rw [if_pos (by omega), Int.natAbs_neg, Int.natAbs_natCast] at e
    have e2 : decDigits (rd t) = t := List.cons.inj e |>.2
    refine h ⟨e2 ▸ plain_decDigits _, fun e3 => h0 ?_⟩
    rw [e3]; rfl
theorem itoa_plain {t : List UInt8} (hp : plain t = true) : itoa (rd t : Int) = t := by
  unfold itoa; rw [if_neg (by omega), Int.toNat_natCast, decDigits_rd t hp]
theorem itoa_plain_not {t : List UInt8} (h : ¬ plain t = true) : itoa (rd t : Int) ≠ t := by
  intro e
  unfold itoa at e
  rw [if_neg (by omega), Int.toNat_natCast] at e
  exact h (e ▸ plain_decDigits _)
theorem bytes_beq (a b : List UInt8) : ((⟨a.toArray⟩ : ByteArray) == ⟨b.toArray⟩) = decide (a = b) := by
  have e : ((⟨a.toArray⟩ : ByteArray) == ⟨b.toArray⟩) = (a.toArray == b.toArray) := rfl
  rw [e, Bool.eq_iff_iff]; simp
theorem bytes_ne {a b : List UInt8} (h : a = b) : ((⟨a.toArray⟩ : ByteArray) != ⟨b.toArray⟩) = false := by
  unfold bne; rw [bytes_beq]; simp [h]
theorem bytes_ne' {a b : List UInt8} (h : a ≠ b) : ((⟨a.toArray⟩ : ByteArray) != ⟨b.toArray⟩) = true := by
  unfold bne; rw [bytes_beq]; simp [h]
theorem itoa_size (n : Int) (h0 : -9223372036854775808 ≤ n) (h1 : n ≤ 9223372036854775807) : (itoa n).length ≤ 21 := itoa_length_le n h0 h1
end Go.Proofs.YtklcbagddijkgaaGreat.Num

/- The program's classes of bytes. -/
set_option maxRecDepth 100000
namespace Go.Proofs.YtklcbagddijkgaaGreat.Ch
open Go.RowKit Go.Lib Go.Proofs.YtklcbagddijkgaaGreat.Num Go.Proofs.YtklcbagddijkgaaGreat.Com

def isLow (c : UInt8) : Bool := decide (97 ≤ c.toNat) && decide (c.toNat ≤ 122)

set_option maxHeartbeats 400000 in
theorem digit_any (c : UInt8) (w : World) : Calls Tryz.prog 80 #[.int .u8 c.toNat] w fun e w' => e = .returned (.bool (isDig c)) ∧ w = w' := by
  by_cases h1 : 48 ≤ c.toNat
  · by_cases h2 : c.toNat ≤ 57
    · have t1 : decide ((48 : Int) ≤ (c.toNat : Int)) = true := decide_eq_true (by omega)
      have t2 : decide ((c.toNat : Int) ≤ 57) = true := decide_eq_true (by omega)
      have hf := hid (show isDig c = true by simp [isDig]; omega)
      go_enter Tryz.func80, Tryz.ntmps80
      go_wp2_with fail
      go_ret
      exact ⟨by rw [hf.out]; rfl, rfl⟩
    · have t1 : decide ((48 : Int) ≤ (c.toNat : Int)) = true := decide_eq_true (by omega)
      have t2 : decide ((c.toNat : Int) ≤ 57) = false := decide_eq_false (by omega)
      have hf := hid (show isDig c = false by simp [isDig]; omega)
      go_enter Tryz.func80, Tryz.ntmps80
      go_wp2_with fail
      go_ret
      exact ⟨by rw [hf.out]; rfl, rfl⟩
  · have t1 : decide ((48 : Int) ≤ (c.toNat : Int)) = false := decide_eq_false (by omega)
    have hf := hid (show isDig c = false by simp [isDig]; omega)
    go_enter Tryz.func80, Tryz.ntmps80
    go_wp2_with fail
    go_ret
    exact ⟨by rw [hf.out]; rfl, rfl⟩
set_option maxHeartbeats 400000 in
theorem lower_any (c : UInt8) (w : World) : Calls Tryz.prog 79 #[.int .u8 c.toNat] w fun e w' => e = .returned (.bool (isLow c)) ∧ w = w' := by
  by_cases h1 : 97 ≤ c.toNat
  · by_cases h2 : c.toNat ≤ 122
    · have t1 : decide ((97 : Int) ≤ (c.toNat : Int)) = true := decide_eq_true (by omega)
      have t2 : decide ((c.toNat : Int) ≤ 122) = true := decide_eq_true (by omega)
      have hf := hid (show isLow c = true by simp [isLow]; omega)
      go_enter Tryz.func79, Tryz.ntmps79
      go_wp2_with fail
      go_ret
      exact ⟨by rw [hf.out]; rfl, rfl⟩
    · have t1 : decide ((97 : Int) ≤ (c.toNat : Int)) = true := decide_eq_true (by omega)
      have t2 : decide ((c.toNat : Int) ≤ 122) = false := decide_eq_false (by omega)
      have hf := hid (show isLow c = false by simp [isLow]; omega)
      go_enter Tryz.func79, Tryz.ntmps79
      go_wp2_with fail
      go_ret
      exact ⟨by rw [hf.out]; rfl, rfl⟩
  · have t1 : decide ((97 : Int) ≤ (c.toNat : Int)) = false := decide_eq_false (by omega)
    have hf := hid (show isLow c = false by simp [isLow]; omega)
    go_enter Tryz.func79, Tryz.ntmps79
    go_wp2_with fail
    go_ret
    exact ⟨by rw [hf.out]; rfl, rfl⟩
end Go.Proofs.YtklcbagddijkgaaGreat.Ch
