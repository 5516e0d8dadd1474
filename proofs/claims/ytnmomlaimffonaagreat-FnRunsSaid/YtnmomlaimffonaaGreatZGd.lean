/- Data of structs, field by field, of whatever type: what a row of cells reads as; the call's own. -/
import Derived.Test.YtnmomlaimffonaaGreatZOi
set_option maxRecDepth 100000
namespace Go.Proofs.YtnmomlaimffonaaGreat.Gd
open Go.RowKit Go.Lib Com Mem YtnmomlaimffonaaGreat.Os Tr
inductive D where
  | i (n : Int) | b (q : Bool) | s (x : List UInt8) | x (t : T) | ss (l : List (List UInt8)) | is (l : List Int) | sl (n : Nat) (l : List (List D))
def wd : Nat → Nat
  | 1 => 8 | 2 => 8 | 3 => 4 | 4 => 5 | 5 => 3 | 6 => 3 | 7 => 5 | _ => 1
theorem wd_pos (n : Nat) : 0 < wd n := by unfold wd; split <;> decide
def tyI : Nat → TypeId
  | 1 => 94
  | _ => 0
abbrev maxI : Nat := 9223372036854775807
def LdN (w : World) (a : Addr) (cs : List Value) : Prop := ∀ i u, cs[i]? = some u → w.cell? (a.add i) = some u
theorem LdN.keep {w w' : World} {a : Addr} {cs : List Value} (h : LdN w a cs) (hk : ∀ p : Addr, p.block = a.block → w'.cell? p = w.cell? p) : LdN w' a cs :=
  fun i u hu => (hk _ (add_block a i)).trans (h i u hu)
inductive Rd8 (w : World) (B : Nat) : List Value → List D → Prop where
  | nil : Rd8 w B [] []
  | i {n : Int} {cs : List Value} {ds : List D} (r : Rd8 w B cs ds) : Rd8 w B (.int .i64 n :: cs) (.i n :: ds)
  | b {q : Bool} {cs : List Value} {ds : List D} (r : Rd8 w B cs ds) : Rd8 w B (.bool q :: cs) (.b q :: ds)
  | s {x : List UInt8} {cs : List Value} {ds : List D} (h : x.length ≤ maxI) (r : Rd8 w B cs ds) : Rd8 w B (sv x :: cs) (.s x :: ds)
  | x {k n : Int} {s : List UInt8} {A : Option Addr} {l c : Nat} {t : T} {cs : List Value} {ds : List D} (h : Ex w B (nv k n s A l c) t) (r : Rd8 w B cs ds) : Rd8 w B (.int .i64 k :: .int .i64 n :: sv s :: .slice A l c :: cs) (.x t :: ds)
  | ss {A : Option Addr} {c : Nat} {l : List (List UInt8)} {cs : List Value} {ds : List D} (h : Rd w B A (l.map sv)) (hs : ∀ x ∈ l, x.length ≤ maxI) (hl : l.length ≤ maxI ∧ l.length ≤ c) (r : Rd8 w B cs ds) : Rd8 w B (.slice A l.length c :: cs) (.ss l :: ds)
  | is {A : Option Addr} {c : Nat} {l : List Int} {cs : List Value} {ds : List D} (h : Rd w B A (l.map (Value.int .i64))) (hl : l.length ≤ maxI ∧ l.length ≤ c) (r : Rd8 w B cs ds) : Rd8 w B (.slice A l.length c :: cs) (.is l :: ds)
  | sl {n : Nat} {A : Option Addr} {c : Nat} {l : List (List D)} {cs : List Value} {ds : List D} (rows : Nat → List Value) (hl : l.length ≤ maxI ∧ l.length ≤ c)
      (hc : ∀ j, j < l.length → (rows j).length = wd n ∧ ∃ ad, A = some ad ∧ ad.block < B ∧ LdN w (ad.add (j * wd n)) (rows j)) (hk : ∀ j e, l[j]? = some e → Rd8 w B (rows j) e) (r : Rd8 w B cs ds) : Rd8 w B (.slice A l.length c :: cs) (.sl n l :: ds)
theorem Rd8.blw {w w' : World} {B : Nat} {cs : List Value} {ds : List D} (h : Rd8 w B cs ds) (hb : Below B w w') : Rd8 w' B cs ds := by
  induction h with
  | nil => exact .nil
  | i _ ih => exact .i ih
  | b _ ih => exact .b ih
  | s h _ ih => exact .s h ih
  | x h _ ih => exact .x (h.blw hb) ih
  | ss h hs hl _ ih => exact .ss (h.below hb) hs hl ih
  | is h hl _ ih => exact .is (h.below hb) hl ih
  | sl rows hl hc _ _ ihk ih =>
    refine .sl rows hl (fun j hj => ?_) ihk ih
    obtain ⟨h0, ad, e, hB, hld⟩ := hc j hj
    exact ⟨h0, ad, e, hB, hld.keep fun p hp => hb.cell (by rw [hp, add_block]; exact hB)⟩
theorem Rd8.more {w : World} {B B' : Nat} {cs : List Value} {ds : List D} (h : Rd8 w B cs ds) (hB : B ≤ B') : Rd8 w B' cs ds := by
  induction h with
  | nil => exact .nil
  | i _ ih => exact .i ih
  | b _ ih => exact .b ih
  | s h _ ih => exact .s h ih
  | x h _ ih => exact .x (h.more hB) ih
  | ss h hs hl _ ih => exact .ss (h.more hB) hs hl ih
  | is h hl _ ih => exact .is (h.more hB) hl ih
  | sl rows hl hc _ _ ihk ih =>
    refine .sl rows hl (fun j hj => ?_) ihk ih
    obtain ⟨h0, ad, e, hB', hld⟩ := hc j hj
    exact ⟨h0, ad, e, by omega, hld⟩
theorem Rd8.go {w w' : World} {cs : List Value} {ds : List D} (h : Rd8 w w.heap.size cs ds) (hb : Below w.heap.size w w') : Rd8 w' w'.heap.size cs ds := (h.blw hb).more hb.size
structure Row (w : World) (B : Nat) (n : Nat) (A : Option Addr) (l : List (List D)) (rows : Nat → List Value) : Prop where
  cell : ∀ j, j < l.length → (rows j).length = wd n ∧ ∃ ad, A = some ad ∧ ad.block < B ∧ LdN w (ad.add (j * wd n)) (rows j)
  kid : ∀ j e, l[j]? = some e → Rd8 w B (rows j) e
theorem Row.go {w w' : World} {n : Nat} {A : Option Addr} {l : List (List D)} {rows : Nat → List Value} (h : Row w w.heap.size n A l rows) (hb : Below w.heap.size w w') : Row w' w'.heap.size n A l rows :=
  ⟨fun j hj => by
    obtain ⟨h0, ad, e, hB, hl⟩ := h.cell j hj
    exact ⟨h0, ad, e, Nat.lt_of_lt_of_le hB hb.size, hl.keep fun p hp => hb.cell (by rw [hp, add_block]; exact hB)⟩, fun j a ha => (h.kid j a ha).go hb⟩
section
variable {w : World} {B : Nat} {cs : List Value} {ds : List D}
theorem Rd8.nil_ (h : Rd8 w B cs []) : cs = [] := by cases h; rfl
theorem Rd8.i_ {n : Int} (h : Rd8 w B cs (.i n :: ds)) : ∃ r, cs = .int .i64 n :: r ∧ Rd8 w B r ds := by cases h with | i r => exact ⟨_, rfl, r⟩
theorem Rd8.s_ {x : List UInt8} (h : Rd8 w B cs (.s x :: ds)) : ∃ r, cs = sv x :: r ∧ x.length ≤ maxI ∧ Rd8 w B r ds := by cases h with | s h r => exact ⟨_, rfl, h, r⟩
theorem Rd8.x_ {t : T} (h : Rd8 w B cs (.x t :: ds)) : ∃ k n s A l c r, cs = .int .i64 k :: .int .i64 n :: sv s :: .slice A l c :: r ∧ Ex w B (nv k n s A l c) t ∧ Rd8 w B r ds := by
  cases h with | x h r => exact ⟨_, _, _, _, _, _, _, rfl, h, r⟩
theorem Rd8.ss_ {l : List (List UInt8)} (h : Rd8 w B cs (.ss l :: ds)) : ∃ A c r, cs = .slice A l.length c :: r ∧ Rd w B A (l.map sv) ∧ (∀ x ∈ l, x.length ≤ maxI) ∧ l.length ≤ maxI ∧ l.length ≤ c ∧ Rd8 w B r ds := by
  cases h with | ss h hs hl r => exact ⟨_, _, _, rfl, h, hs, hl.1, hl.2, r⟩
theorem Rd8.sl_ {n : Nat} {l : List (List D)} (h : Rd8 w B cs (.sl n l :: ds)) : ∃ A c r rows, cs = .slice A l.length c :: r ∧ Row w B n A l rows ∧ l.length ≤ maxI ∧ Rd8 w B r ds := by
  cases h with | sl rows hl hc hk r => exact ⟨_, _, _, rows, rfl, ⟨hc, hk⟩, hl.1, r⟩
end
def RowsN (d : Nat) (cs : List Value) (m : Nat) (rows : Nat → List Value) : Prop := ∀ j, j < m → (rows j).length = d ∧ ∀ i u, (rows j)[i]? = some u → cs[j * d + i]? = some u
def setN (cs : List Value) (off : Nat) : List Value → List Value
  | [] => cs
  | c :: r => setN (cs.set off c) (off + 1) r
def putN (w : World) (g off : Nat) : List Value → World
  | [] => w
  | c :: r => putN (w.setCell ⟨g, off, none⟩ c) g (off + 1) r
theorem setN_at : ∀ (new cs : List Value) (off i : Nat), off + new.length ≤ cs.length → (setN cs off new)[i]? = if off ≤ i ∧ i < off + new.length then new[i - off]? else cs[i]?
  | [], cs, off, i, _ => by rw [setN, if_neg (by simp)]
  | c :: r, cs, off, i, h => by
    simp only [List.length_cons] at h
    rw [setN, setN_at r _ _ _ (by rw [List.length_set]; omega), List.getElem?_set]
    simp only [List.length_cons]
    by_cases h1 : off = i
    · subst h1
      rw [if_neg (by omega), if_pos rfl, if_pos (by omega), if_pos (by omega), Nat.sub_self]; rfl
    · rw [if_neg h1]
      by_cases h2 : off + 1 ≤ i ∧ i < off + 1 + r.length
      · rw [if_pos h2, if_pos (by omega)]
        obtain ⟨j, rfl⟩ : ∃ j, i = off + 1 + j := ⟨i - (off + 1), by omega⟩
        rw [show off + 1 + j - (off + 1) = j by omega, show off + 1 + j - off = j + 1 by omega]; rfl
      · rw [if_neg h2, if_neg (by omega)]
theorem putN_size : ∀ (new : List Value) (w : World) (g off : Nat), (putN w g off new).heap.size = w.heap.size
  | [], _, _, _ => rfl
  | _ :: r, w, g, off => by rw [putN, putN_size]; simp [World.setCell]
theorem putN_far : ∀ (new : List Value) (w : World) (g off k : Nat), k ≠ g → (putN w g off new).heap[k]? = w.heap[k]?
  | [], _, _, _, _, _ => rfl
  | _ :: r, w, g, off, k, h => by rw [putN, putN_far r _ _ _ _ h, heap_setCell_other _ _ _ _ h]
theorem putN_blk : ∀ (new : List Value) {w : World} {g ty : Nat} {cs : List Value} (off : Nat), Blk w g ty cs → Blk (putN w g off new) g ty (setN cs off new)
  | [], _, _, _, _, _, h => h
  | c :: r, _, _, _, _, off, h => putN_blk r (off + 1) (h.set_ off c)
theorem putN_below : ∀ (new : List Value) {B : Nat} {a w : World} {g : Nat} (off : Nat), Below B a w → B ≤ g → Below B a (putN w g off new)
  | [], _, _, _, _, _, h, _ => h
  | _ :: r, _, _, _, _, off, h, hg => putN_below r (off + 1) (h.setCell hg _) hg
end Go.Proofs.YtnmomlaimffonaaGreat.Gd
