/- Data of structs, field by field, of whatever type: what a row of cells reads as; the call's own. -/
import Derived.Test.YtklcbagddijkgaaGreatDoorZEx4
import Derived.Test.YtklcbagddijkgaaGreatDoorZLhS
import Derived.Test.YtklcbagddijkgaaGreatDoorZOi
set_option maxRecDepth 100000
namespace Go.Proofs.YtklcbagddijkgaaGreatDoor.Gd
open Go.RowKit Go.Lib Go.Proofs.YtklcbagddijkgaaGreatDoor.Com Go.Proofs.YtklcbagddijkgaaGreatDoor.Mem Go.Proofs.YtklcbagddijkgaaGreatDoor.Os Go.Proofs.YtklcbagddijkgaaGreatDoor.Tr

/-- a field: a number, a bool, a string, an expression (four cells), a list of strings, of numbers, of structs of sort n -/
inductive D where
  | i (n : Int) | b (q : Bool) | s (x : List UInt8) | x (t : T) | ss (l : List (List UInt8)) | is (l : List Int) | sl (n : Nat) (l : List (List D))
/-- how many cells a struct of sort n has: 1 statement, 2 node, 3 predicate, 4 state of a pair, 5 invariant of a pair, 6 obligation, 7 stored item -/
def wd : Nat → Nat
  | 1 => 8 | 2 => 8 | 3 => 4 | 4 => 5 | 5 => 3 | 6 => 3 | 7 => 5 | _ => 1
theorem wd_pos (n : Nat) : 0 < wd n := by unfold wd; split <;> decide
/-- the program's type of sort n -/
def tyI : Nat → TypeId
  | 1 => 79
  | _ => 0
abbrev maxI : Nat := 9223372036854775807
/-- cells at an address -/
def LdN (w : World) (a : Addr) (cs : List Value) : Prop := ∀ i u, cs[i]? = some u → w.cell? (a.add i) = some u
theorem LdN.keep {w w' : World} {a : Addr} {cs : List Value} (h : LdN w a cs) (hk : ∀ p : Addr, p.block = a.block → w'.cell? p = w.cell? p) : LdN w' a cs :=
  fun i u hu => (hk _ (add_block a i)).trans (h i u hu)
/-- the cells read as the fields -/
inductive Rd8 (w : World) (B : Nat) : List Value → List D → Prop where
  | nil : Rd8 w B [] []
  | i {n : Int} {cs : List Value} {ds : List D} (r : Rd8 w B cs ds) : Rd8 w B (.int .i64 n :: cs) (.i n :: ds)
  | b {q : Bool} {cs : List Value} {ds : List D} (r : Rd8 w B cs ds) : Rd8 w B (.bool q :: cs) (.b q :: ds)
  | s {x : List UInt8} {cs : List Value} {ds : List D} (h : x.length ≤ maxI) (r : Rd8 w B cs ds) : Rd8 w B (sv x :: cs) (.s x :: ds)
  | x {k n : Int} {s : List UInt8} {A : Option Addr} {l c : Nat} {t : T} {cs : List Value} {ds : List D} (h : Ex w B (nv k n s A l c) t) (r : Rd8 w B cs ds) : Rd8 w B (.int .i64 k :: .int .i64 n :: sv s :: .slice A l c :: cs) (.x t :: ds)
  | ss {A : Option Addr} {c : Nat} {l : List (List UInt8)} {cs : List Value} {ds : List D} (h : Rd w B A (l.map sv)) (hs : ∀ x ∈ l, x.length ≤ maxI) (hl : l.length ≤ maxI ∧ l.length ≤ c) (r : Rd8 w B cs ds) : Rd8 w B (.slice A l.length c :: cs) (.ss l :: ds)
  | is {A : Option Addr} {c : Nat} {l : List Int} {cs : List Value} {ds : List D} (h : Rd w B A (l.map (Value.int .i64))) (hl : l.length ≤ maxI ∧ l.length ≤ c) (r : Rd8 w B cs ds) : Rd8 w B (.slice A l.length c :: cs) (.is l :: ds)
  | sl {n : Nat} {A : Option Addr} {c : Nat} {l : List (List D)} {cs : List Value} {ds : List D} (rows : Nat → List Value) (hl : l.length ≤ maxI ∧ l.length ≤ c)
      (hc : ∀ j, j < l.length → (rows j).length = wd n ∧ ∃ ad, A = some ad ∧ ad.block < B ∧ LdN w (ad.add (j * wd n)) (rows j)) (hk : ∀ j e, l[j]? = some e → Rd8 w B (rows j) e) (r : Rd8 w B cs ds) : Rd8 w B (.slice A l.length c :: cs) (.sl n l :: ds)
theorem rd_blw {w w' : World} {B : Nat} {A : Option Addr} {xs : List Value} (h : Rd w B A xs) (hb : Below B w w') : Rd w' B A xs := h.below hb
theorem Rd8.blw {w w' : World} {B : Nat} {cs : List Value} {ds : List D} (h : Rd8 w B cs ds) (hb : Below B w w') : Rd8 w' B cs ds := by
  induction h with
  | nil => exact .nil
  | i _ ih => exact .i ih
  | b _ ih => exact .b ih
  | s h _ ih => exact .s h ih
  | x h _ ih => exact .x (h.blw hb) ih
  | ss h hs hl _ ih => exact .ss (h.below hb) hs hl ih
  | is h hl _ ih => exact .is (h.below hb) hl ih
  | sl rows hl hc _ _ ihk ih =>
    refine .sl rows hl (fun j hj => ?_) ihk ih
    obtain ⟨h0, ad, e, hB, hld⟩ := hc j hj
    exact ⟨h0, ad, e, hB, hld.keep fun p hp => hb.cell (by rw [hp, add_block]; exact hB)⟩
theorem Rd8.more {w : World} {B B' : Nat} {cs : List Value} {ds : List D} (h : Rd8 w B cs ds) (hB : B ≤ B') : Rd8 w B' cs ds := by
  induction h with
  | nil => exact .nil
  | i _ ih => exact .i ih
  | b _ ih => exact .b ih
  | s h _ ih => exact .s h ih
  | x h _ ih => exact .x (h.more hB) ih
  | ss h hs hl _ ih => exact .ss (h.more hB) hs hl ih
  | is h hl _ ih => exact .is (h.more hB) hl ih
  | sl rows hl hc _ _ ihk ih =>
    refine .sl rows hl (fun j hj => ?_) ihk ih
    obtain ⟨h0, ad, e, hB', hld⟩ := hc j hj
    exact ⟨h0, ad, e, by omega, hld⟩
theorem Rd8.go {w w' : World} {cs : List Value} {ds : List D} (h : Rd8 w w.heap.size cs ds) (hb : Below w.heap.size w w') : Rd8 w' w'.heap.size cs ds := (h.blw hb).more hb.size
/-- a row of structs: its cells, and what they read as -/
structure Row (w : World) (B : Nat) (n : Nat) (A : Option Addr) (l : List (List D)) (rows : Nat → List Value) : Prop where
  cell : ∀ j, j < l.length → (rows j).length = wd n ∧ ∃ ad, A = some ad ∧ ad.block < B ∧ LdN w (ad.add (j * wd n)) (rows j)
  kid : ∀ j e, l[j]? = some e → Rd8 w B (rows j) e
theorem Row.go {w w' : World} {n : Nat} {A : Option Addr} {l : List (List D)} {rows : Nat → List Value} (h : Row w w.heap.size n A l rows) (hb : Below w.heap.size w w') : Row w' w'.heap.size n A l rows :=
  ⟨fun j hj => by
    obtain ⟨h0, ad, e, hB, hl⟩ := h.cell j hj
    exact ⟨h0, ad, e, Nat.lt_of_lt_of_le hB hb.size, hl.keep fun p hp => hb.cell (by rw [hp, add_block]; exact hB)⟩, fun j a ha => (h.kid j a ha).go hb⟩

/-! what a field's cells are -/
section
variable {w : World} {B : Nat} {cs : List Value} {ds : List D}
theorem Rd8.nil_ (h : Rd8 w B cs []) : cs = [] := by cases h; rfl
theorem Rd8.i_ {n : Int} (h : Rd8 w B cs (.i n :: ds)) : ∃ r, cs = .int .i64 n :: r ∧ Rd8 w B r ds := by cases h with | i r => exact ⟨_, rfl, r⟩
theorem Rd8.b_ {q : Bool} (h : Rd8 w B cs (.b q :: ds)) : ∃ r, cs = .bool q :: r ∧ Rd8 w B r ds := by cases h with | b r => exact ⟨_, rfl, r⟩
theorem Rd8.s_ {x : List UInt8} (h : Rd8 w B cs (.s x :: ds)) : ∃ r, cs = sv x :: r ∧ x.length ≤ maxI ∧ Rd8 w B r ds := by cases h with | s h r => exact ⟨_, rfl, h, r⟩
theorem Rd8.x_ {t : T} (h : Rd8 w B cs (.x t :: ds)) : ∃ k n s A l c r, cs = .int .i64 k :: .int .i64 n :: sv s :: .slice A l c :: r ∧ Ex w B (nv k n s A l c) t ∧ Rd8 w B r ds := by
  cases h with | x h r => exact ⟨_, _, _, _, _, _, _, rfl, h, r⟩
theorem Rd8.ss_ {l : List (List UInt8)} (h : Rd8 w B cs (.ss l :: ds)) : ∃ A c r, cs = .slice A l.length c :: r ∧ Rd w B A (l.map sv) ∧ (∀ x ∈ l, x.length ≤ maxI) ∧ l.length ≤ maxI ∧ l.length ≤ c ∧ Rd8 w B r ds := by
  cases h with | ss h hs hl r => exact ⟨_, _, _, rfl, h, hs, hl.1, hl.2, r⟩
theorem Rd8.is_ {l : List Int} (h : Rd8 w B cs (.is l :: ds)) : ∃ A c r, cs = .slice A l.length c :: r ∧ Rd w B A (l.map (Value.int .i64)) ∧ l.length ≤ maxI ∧ Rd8 w B r ds := by
  cases h with | is h hl r => exact ⟨_, _, _, rfl, h, hl.1, r⟩
theorem Rd8.sl_ {n : Nat} {l : List (List D)} (h : Rd8 w B cs (.sl n l :: ds)) : ∃ A c r rows, cs = .slice A l.length c :: r ∧ Row w B n A l rows ∧ l.length ≤ maxI ∧ Rd8 w B r ds := by
  cases h with | sl rows hl hc hk r => exact ⟨_, _, _, rows, rfl, ⟨hc, hk⟩, hl.1, r⟩
end

/-! how much it is: what the laws' sz.. count -/
mutual
def szD : D → Nat
  | .i _ => 0 | .b _ => 0 | .s x => x.length | .x t => szT t | .ss l => l.length + (l.map List.length).sum | .is l => l.length | .sl _ l => l.length + szDL l
def szDL : List (List D) → Nat
  | [] => 0
  | e :: r => szDR e + szDL r
def szDR : List D → Nat
  | [] => 0
  | d :: r => szD d + szDR r
end
theorem szDL_take {l : List (List D)} {m : Nat} (h : m < l.length) : szDL (l.take (m + 1)) = szDL (l.take m) + szDR l[m] := by
  induction l generalizing m with
  | nil => simp at h
  | cons e r ih =>
    cases m with
    | zero => simp [szDL]
    | succ m =>
      simp only [List.take_succ_cons, szDL, List.getElem_cons_succ]
      rw [ih (by simpa using h)]; omega
theorem szDL_le (l : List (List D)) (m : Nat) : szDL (l.take m) ≤ szDL l := by
  induction l generalizing m with
  | nil => simp
  | cons e r ih =>
    cases m with
    | zero => simp [szDL]
    | succ m => simp only [List.take_succ_cons, szDL]; have := ih m; omega
theorem szDL_mem {l : List (List D)} {e : List D} (h : e ∈ l) : szDR e ≤ szDL l := by
  induction l with
  | nil => cases h
  | cons b r ih =>
    simp only [szDL]
    rcases List.mem_cons.1 h with rfl | h
    · omega
    · have := ih h; omega
end Go.Proofs.YtklcbagddijkgaaGreatDoor.Gd
