/- Data of structs, field by field, of whatever type: what a row of cells reads as; the call's own. -/
import Derived.Test.YtnmomlaimffonaaGreatZOi
set_option maxRecDepth 100000
namespace Go.Proofs.YtnmomlaimffonaaGreat.Gd
open Go.RowKit Go.Lib Com Mem YtnmomlaimffonaaGreat.Os Tr
inductive D where
  | i (n : Int) | b (q : Bool) | s (x : List UInt8) | x (t : T) | ss (l : List (List UInt8)) | is (l : List Int) | sl (n : Nat) (l : List (List D))
def wd : Nat → Nat
  | 1 => 8 | 2 => 8 | 3 => 4 | 4 => 5 | 5 => 3 | 6 => 3 | 7 => 5 | _ => 1
theorem wd_pos (n : Nat) : 0 < wd n := by unfold wd; split <;> decide
def tyI : Nat → TypeId
  | 1 => 94
  | _ => 0
abbrev maxI : Nat := 9223372036854775807
def LdN (w : World) (a : Addr) (cs : List Value) : Prop := ∀ i u, cs[i]? = some u → w.cell? (a.add i) = some u
theorem LdN.keep {w w' : World} {a : Addr} {cs : List Value} (h : LdN w a cs) (hk : ∀ p : Addr, p.block = a.block → w'.cell? p = w.cell? p) : LdN w' a cs :=
  fun i u hu => (hk _ (add_block a i)).trans (h i u hu)
inductive Rd8 (w : World) (B : Nat) : List Value → List D → Prop where
  | nil : Rd8 w B [] []
  | i {n : Int} {cs : List Value} {ds : List D} (r : Rd8 w B cs ds) : Rd8 w B (.int .i64 n :: cs) (.i n :: ds)
  | b {q : Bool} {cs : List Value} {ds : List D} (r : Rd8 w B cs ds) : Rd8 w B (.bool q :: cs) (.b q :: ds)
  | s {x : List UInt8} {cs : List Value} {ds : List D} (h : x.length ≤ maxI) (r : Rd8 w B cs ds) : Rd8 w B (sv x :: cs) (.s x :: ds)
  | x {k n : Int} {s : List UInt8} {A : Option Addr} {l c : Nat} {t : T} {cs : List Value} {ds : List D} (h : Ex w B (nv k n s A l c) t) (r : Rd8 w B cs ds) : Rd8 w B (.int .i64 k :: .int .i64 n :: sv s :: .slice A l c :: cs) (.x t :: ds)
  | ss {A : Option Addr} {c : Nat} {l : List (List UInt8)} {cs : List Value} {ds : List D} (h : Rd w B A (l.map sv)) (hs : ∀ x ∈ l, x.length ≤ maxI) (hl : l.length ≤ maxI ∧ l.length ≤ c) (r : Rd8 w B cs ds) : Rd8 w B (.slice A l.length c :: cs) (.ss l :: ds)
  | is {A : Option Addr} {c : Nat} {l : List Int} {cs : List Value} {ds : List D} (h : Rd w B A (l.map (Value.int .i64))) (hl : l.length ≤ maxI ∧ l.length ≤ c) (r : Rd8 w B cs ds) : Rd8 w B (.slice A l.length c :: cs) (.is l :: ds)
  | sl {n : Nat} {A : Option Addr} {c : Nat} {l : List (List D)} {cs : List Value} {ds : List D} (rows : Nat → List Value) (hl : l.length ≤ maxI ∧ l.length ≤ c)
      (hc : ∀ j, j < l.length → (rows j).length = wd n ∧ ∃ ad, A = some ad ∧ ad.block < B ∧ LdN w (ad.add (j * wd n)) (rows j)) (hk : ∀ j e, l[j]? = some e → Rd8 w B (rows j) e) (r : Rd8 w B cs ds) : Rd8 w B (.slice A l.length c :: cs) (.sl n l :: ds)
theorem Rd8.blw {w w' : World} {B : Nat} {cs : List Value} {ds : List D} (h : Rd8 w B cs ds) (hb : Below B w w') : Rd8 w' B cs ds := by
  induction h with
  | nil => exact .nil
  | i _ ih => exact .i ih
  | b _ ih => exact .b ih
  | s h _ ih => exact .s h ih
  | x h _ ih => exact .x (h.blw hb) ih
  | ss h hs hl _ ih => exact .ss (h.below hb) hs hl ih
  | is h hl _ ih => exact .is (h.below hb) hl ih
  | sl rows hl hc _ _ ihk ih =>
    refine .sl rows hl (fun j hj => ?_) ihk ih
    obtain ⟨h0, ad, e, hB, hld⟩ := hc j hj
    exact ⟨h0, ad, e, hB, hld.keep fun p hp => hb.cell (by rw [hp, add_block]; exact hB)⟩
theorem Rd8.more {w : World} {B B' : Nat} {cs : List Value} {ds : List D} (h : Rd8 w B cs ds) (hB : B ≤ B') : Rd8 w B' cs ds := by
  induction h with
  | nil => exact .nil
  | i _ ih => exact .i ih
  | b _ ih => exact .b ih
  | s h _ ih => exact .s h ih
  | x h _ ih => exact .x (h.more hB) ih
  | ss h hs hl _ ih => exact .ss (h.more hB) hs hl ih
  | is h hl _ ih => exact .is (h.more hB) hl ih
  | sl rows hl hc _ _ ihk ih =>
    refine .sl rows hl (fun j hj => ?_) ihk ih
    obtain ⟨h0, ad, e, hB', hld⟩ := hc j hj
    exact ⟨h0, ad, e, by omega, hld⟩
theorem Rd8.go {w w' : World} {cs : List Value} {ds : List D} (h : Rd8 w w.heap.size cs ds) (hb : Below w.heap.size w w') : Rd8 w' w'.heap.size cs ds := (h.blw hb).more hb.size
structure Row (w : World) (B : Nat) (n : Nat) (A : Option Addr) (l : List (List D)) (rows : Nat → List Value) : Prop where
  cell : ∀ j, j < l.length → (rows j).length = wd n ∧ ∃ ad, A = some ad ∧ ad.block < B ∧ LdN w (ad.add (j * wd n)) (rows j)
  kid : ∀ j e, l[j]? = some e → Rd8 w B (rows j) e
theorem Row.go {w w' : World} {n : Nat} {A : Option Addr} {l : List (List D)} {rows : Nat → List Value} (h : Row w w.heap.size n A l rows) (hb : Below w.heap.size w w') : Row w' w'.heap.size n A l rows :=
  ⟨fun j hj => by
    obtain ⟨h0, ad, e, hB, hl⟩ := h.cell j hj
    exact ⟨h0, ad, e, Nat.lt_of_lt_of_le hB hb.size, hl.keep fun p hp => hb.cell (by rw [hp, add_block]; exact hB)⟩, fun j a ha => (h.kid j a ha).go hb⟩
section
variable {w : World} {B : Nat} {cs : List Value} {ds : List D}
theorem Rd8.nil_ (h : Rd8 w B cs []) : cs = [] := by cases h; rfl
theorem Rd8.i_ {n : Int} (h : Rd8 w B cs (.i n :: ds)) : ∃ r, cs = .int .i64 n :: r ∧ Rd8 w B r ds := by cases h with | i r => exact ⟨_, rfl, r⟩
theorem Rd8.s_ {x : List UInt8} (h : Rd8 w B cs (.s x :: ds)) : ∃ r, cs = sv x :: r ∧ x.length ≤ maxI ∧ Rd8 w B r ds := by cases h with | s h r => exact ⟨_, rfl, h, r⟩
theorem Rd8.x_ {t : T} (h : Rd8 w B cs (.x t :: ds)) : ∃ k n s A l c r, cs = .int .i64 k :: .int .i64 n :: sv s :: .slice A l c :: r ∧ Ex w B (nv k n s A l c) t ∧ Rd8 w B r ds := by
  cases h with | x h r => exact ⟨_, _, _, _, _, _, _, rfl, h, r⟩
theorem Rd8.ss_ {l : List (List UInt8)} (h : Rd8 w B cs (.ss l :: ds)) : ∃ A c r, cs = .slice A l.length c :: r ∧ Rd w B A (l.map sv) ∧ (∀ x ∈ l, x.length ≤ maxI) ∧ l.length ≤ maxI ∧ l.length ≤ c ∧ Rd8 w B r ds := by
  cases h with | ss h hs hl r => exact ⟨_, _, _, rfl, h, hs, hl.1, hl.2, r⟩
theorem Rd8.sl_ {n : Nat} {l : List (List D)} (h : Rd8 w B cs (.sl n l :: ds)) : ∃ A c r rows, cs = .slice A l.length c :: r ∧ Row w B n A l rows ∧ l.length ≤ maxI ∧ Rd8 w B r ds := by
  cases h with | sl rows hl hc hk r => exact ⟨_, _, _, rows, rfl, ⟨hc, hk⟩, hl.1, r⟩
end
mutual
def szD : D → Nat
  | .i _ => 0 | .b _ => 0 | .s x => x.length | .x t => szT t | .ss l => l.length + (l.map List.length).sum | .is l => l.length | .sl _ l => l.length + szDL l
def szDL : List (List D) → Nat
  | [] => 0
  | e :: r => szDR e + szDL r
def szDR : List D → Nat
  | [] => 0
  | d :: r => szD d + szDR r
end
theorem szDL_take {l : List (List D)} {m : Nat} (h : m < l.length) : szDL (l.take (m + 1)) = szDL (l.take m) + szDR l[m] := by
  induction l generalizing m with
  | nil => simp at h
  | cons e r ih =>
    cases m with
    | zero => simp [szDL]
    | succ m =>
      simp only [List.take_succ_cons, szDL, List.getElem_cons_succ]
      rw [ih (by simpa using h)]; omega
theorem szDL_le (l : List (List D)) (m : Nat) : szDL (l.take m) ≤ szDL l := by
  induction l generalizing m with
  | nil => simp
  | cons e r ih =>
    cases m with
    | zero => simp [szDL]
    | succ m => simp only [List.take_succ_cons, szDL]; have := ih m; omega
theorem szDL_mem {l : List (List D)} {e : List D} (h : e ∈ l) : szDR e ≤ szDL l := by
  induction l with
  | nil => cases h
  | cons b r ih =>
    simp only [szDL]
    rcases List.mem_cons.1 h with rfl | h
    · omega
    · have := ih h; omega
def RowsN (d : Nat) (cs : List Value) (m : Nat) (rows : Nat → List Value) : Prop := ∀ j, j < m → (rows j).length = d ∧ ∀ i u, (rows j)[i]? = some u → cs[j * d + i]? = some u
def Iv (lo hi : Nat) : Nat → Prop := fun g => lo ≤ g ∧ g < hi
inductive OwnD (w : World) : (Nat → Prop) → List Value → List D → Prop where
  | nil {R : Nat → Prop} : OwnD w R [] []
  | i {R : Nat → Prop} {n : Int} {cs : List Value} {ds : List D} (r : OwnD w R cs ds) : OwnD w R (.int .i64 n :: cs) (.i n :: ds)
  | b {R : Nat → Prop} {q : Bool} {cs : List Value} {ds : List D} (r : OwnD w R cs ds) : OwnD w R (.bool q :: cs) (.b q :: ds)
  | s {R : Nat → Prop} {x : List UInt8} {cs : List Value} {ds : List D} (h : x.length ≤ maxI) (r : OwnD w R cs ds) : OwnD w R (sv x :: cs) (.s x :: ds)
  | x {R R2 : Nat → Prop} {lo hi : Nat} {k n : Int} {s : List UInt8} {A : Option Addr} {l c : Nat} {t : T} {cs : List Value} {ds : List D} (h : OwnX lo hi w (nv k n s A l c) t) (h1 : ∀ g, Iv lo hi g → R g ∧ ¬ R2 g) (h2 : ∀ g, R2 g → R g) (r : OwnD w R2 cs ds) :
      OwnD w R (.int .i64 k :: .int .i64 n :: sv s :: .slice A l c :: cs) (.x t :: ds)
  | ss {R R2 : Nat → Prop} {lo hi : Nat} {v : Value} {l : List (List UInt8)} {cs : List Value} {ds : List D} (h : OwnS lo hi w v l) (hs : ∀ x ∈ l, x.length ≤ maxI) (h1 : ∀ g, Iv lo hi g → R g ∧ ¬ R2 g) (h2 : ∀ g, R2 g → R g) (r : OwnD w R2 cs ds) : OwnD w R (v :: cs) (.ss l :: ds)
  | is {R R2 : Nat → Prop} {lo hi : Nat} {v : Value} {l : List Int} {cs : List Value} {ds : List D} (h : OwnI lo hi w v l) (h1 : ∀ g, Iv lo hi g → R g ∧ ¬ R2 g) (h2 : ∀ g, R2 g → R g) (r : OwnD w R2 cs ds) : OwnD w R (v :: cs) (.is l :: ds)
  | sl {R R2 : Nat → Prop} {n : Nat} {A : Option Addr} {c : Nat} {l : List (List D)} {cs : List Value} {ds : List D} (rows : Nat → List Value) (Rs : Nat → Nat → Prop) (hl : l.length ≤ c) (hc : c ≤ maxLen) (h0 : A = none → c = 0)
      (hA : ∀ ad, A = some ad → ∃ g cs0, ad = ⟨g, 0, none⟩ ∧ R g ∧ ¬ R2 g ∧ Blk w g (tyI n) cs0 ∧ RowsN (wd n) cs0 l.length rows ∧ ∀ j, j < l.length → ¬ Rs j g)
      (hk : ∀ j e, l[j]? = some e → OwnD w (Rs j) (rows j) e) (hR : ∀ j g, j < l.length → Rs j g → R g ∧ ¬ R2 g) (hd : ∀ i j g, i < j → j < l.length → Rs i g → ¬ Rs j g) (h2 : ∀ g, R2 g → R g) (r : OwnD w R2 cs ds) :
      OwnD w R (.slice A l.length c :: cs) (.sl n l :: ds)
theorem OwnD.same {w w' : World} {R : Nat → Prop} {cs : List Value} {ds : List D} (h : OwnD w R cs ds) (hs : ∀ g, R g → w'.heap[g]? = w.heap[g]?) : OwnD w' R cs ds := by
  induction h with
  | nil => exact .nil
  | i _ ih => exact .i (ih hs)
  | b _ ih => exact .b (ih hs)
  | s h _ ih => exact .s h (ih hs)
  | x h h1 h2 _ ih => exact .x (h.same fun g h3 h4 => hs g (h1 g ⟨h3, h4⟩).1) h1 h2 (ih fun g hg => hs g (h2 g hg))
  | ss h hx h1 h2 _ ih => exact .ss (h.same fun g h3 h4 => hs g (h1 g ⟨h3, h4⟩).1) hx h1 h2 (ih fun g hg => hs g (h2 g hg))
  | is h h1 h2 _ ih => exact .is (h.same fun g h3 h4 => hs g (h1 g ⟨h3, h4⟩).1) h1 h2 (ih fun g hg => hs g (h2 g hg))
  | sl rows Rs hl hc h0 hA hk hR' hd h2 r ihk ih =>
    refine .sl rows Rs hl hc h0 (fun ad e => ?_) (fun j e he => ihk j e he fun g hg => hs g (hR' j g (lt_of_get he) hg).1) hR' hd h2 (ih fun g hg => hs g (h2 g hg))
    obtain ⟨g, cs0, e1, h3, h4, h5, h6, h7⟩ := hA ad e
    exact ⟨g, cs0, e1, h3, h4, (hs g h3).trans h5, h6, h7⟩
theorem blk_ldN {w : World} {g ty : Nat} {cs0 : List Value} (h : Blk w g ty cs0) {d m : Nat} {rows : Nat → List Value} (hr : RowsN d cs0 m rows) {j : Nat} (hj : j < m) : LdN w ((⟨g, 0, none⟩ : Addr).add (j * d)) (rows j) := by
  intro i u hu
  have h1 := (hr j hj).2 i u hu
  have e : ((⟨g, 0, none⟩ : Addr).add (j * d)).add i = ⟨g, j * d + i, none⟩ := by
    rw [add_zero]
    unfold Addr.add
    split
    · rename_i h; subst h; rfl
    · rfl
  rw [e, h.cell]
  exact h1
theorem own_rdS {lo hi : Nat} {w : World} {v : Value} {l : List (List UInt8)} (h : OwnS lo hi w v l) : ∃ A c, v = .slice A l.length c ∧ Rd w w.heap.size A (l.map sv) ∧ l.length ≤ maxI ∧ l.length ≤ c := by
  obtain ⟨A, c, e, hr, h1, h2, _⟩ := h.read_
  exact ⟨A, c, e, hr, by unfold maxLen at h2; unfold maxI; omega, h1⟩
theorem own_rdI {lo hi : Nat} {w : World} {v : Value} {l : List Int} (h : OwnI lo hi w v l) : ∃ A c, v = .slice A l.length c ∧ Rd w w.heap.size A (l.map (Value.int .i64)) ∧ l.length ≤ maxI ∧ l.length ≤ c := by
  obtain ⟨A, c, e, hr, h1, h2, _⟩ := h.read_
  exact ⟨A, c, e, hr, by unfold maxLen at h2; unfold maxI; omega, h1⟩
theorem OwnD.rd {w : World} {R : Nat → Prop} {cs : List Value} {ds : List D} (h : OwnD w R cs ds) : Rd8 w w.heap.size cs ds := by
  induction h with
  | nil => exact .nil
  | i _ ih => exact .i ih
  | b _ ih => exact .b ih
  | s h _ ih => exact .s h ih
  | x h h1 h2 _ ih => exact .x h.ex ih
  | ss h hs h1 h2 _ ih =>
    obtain ⟨A, c, rfl, hr, hl⟩ := own_rdS h
    exact .ss hr hs hl ih
  | is h h1 h2 _ ih =>
    obtain ⟨A, c, rfl, hr, hl⟩ := own_rdI h
    exact .is hr hl ih
  | sl rows Rs hl hc h0 hA hk hR' hd h2 r ihk ih =>
    rename_i R1 R2 n A c l cs1 ds1
    refine .sl rows ⟨by unfold maxLen at hc; unfold maxI; omega, hl⟩ (fun j hj => ?_) ihk ih
    cases A with
    | none => have := h0 rfl; omega
    | some ad =>
      obtain ⟨g, cs0, e1, h3, h4, h5, h6, h7⟩ := hA ad rfl
      subst e1
      exact ⟨(h6 j hj).1, _, rfl, h5.lt, blk_ldN h5 h6 hj⟩
def setN (cs : List Value) (off : Nat) : List Value → List Value
  | [] => cs
  | c :: r => setN (cs.set off c) (off + 1) r
def putN (w : World) (g off : Nat) : List Value → World
  | [] => w
  | c :: r => putN (w.setCell ⟨g, off, none⟩ c) g (off + 1) r
theorem setN_len : ∀ (new cs : List Value) (off : Nat), (setN cs off new).length = cs.length
  | [], cs, off => rfl
  | _ :: r, cs, off => by rw [setN, setN_len, List.length_set]
theorem setN_at : ∀ (new cs : List Value) (off i : Nat), off + new.length ≤ cs.length → (setN cs off new)[i]? = if off ≤ i ∧ i < off + new.length then new[i - off]? else cs[i]?
  | [], cs, off, i, _ => by rw [setN, if_neg (by simp)]
  | c :: r, cs, off, i, h => by
    simp only [List.length_cons] at h
    rw [setN, setN_at r _ _ _ (by rw [List.length_set]; omega), List.getElem?_set]
    simp only [List.length_cons]
    by_cases h1 : off = i
    · subst h1
      rw [if_neg (by omega), if_pos rfl, if_pos (by omega), if_pos (by omega), Nat.sub_self]; rfl
    · rw [if_neg h1]
      by_cases h2 : off + 1 ≤ i ∧ i < off + 1 + r.length
      · rw [if_pos h2, if_pos (by omega)]
        obtain ⟨j, rfl⟩ : ∃ j, i = off + 1 + j := ⟨i - (off + 1), by omega⟩
        rw [show off + 1 + j - (off + 1) = j by omega, show off + 1 + j - off = j + 1 by omega]; rfl
      · rw [if_neg h2, if_neg (by omega)]
theorem RowsN.set {d : Nat} {cs : List Value} {m : Nat} {rows : Nat → List Value} (h : RowsN d cs m rows) (new : List Value) (hn : new.length = d) (hl : m * d + d ≤ cs.length) : RowsN d (setN cs (m * d) new) (m + 1) (fun j => if j = m then new else rows j) := by
  intro j hj
  by_cases e : j = m
  · subst e
    refine ⟨(congrArg List.length (if_pos rfl)).trans hn, fun i u hu => ?_⟩
    have hu : new[i]? = some u := by simpa using hu
    have hi := lt_of_get hu
    rw [setN_at _ _ _ _ (by omega), if_pos (by omega), show j * d + i - j * d = i by omega]; exact hu
  · obtain ⟨h1, h2⟩ := h j (by omega)
    refine ⟨(congrArg List.length (if_neg e)).trans h1, fun i u hu => ?_⟩
    have hu : (rows j)[i]? = some u := by simpa [e] using hu
    have hi := lt_of_get hu
    have hjd : (j + 1) * d ≤ m * d := Nat.mul_le_mul_right d (by omega)
    rw [Nat.add_mul, Nat.one_mul] at hjd
    rw [setN_at _ _ _ _ (by omega), if_neg (by omega)]; exact h2 i u hu
theorem putN_size : ∀ (new : List Value) (w : World) (g off : Nat), (putN w g off new).heap.size = w.heap.size
  | [], _, _, _ => rfl
  | _ :: r, w, g, off => by rw [putN, putN_size]; simp [World.setCell]
theorem putN_far : ∀ (new : List Value) (w : World) (g off k : Nat), k ≠ g → (putN w g off new).heap[k]? = w.heap[k]?
  | [], _, _, _, _, _ => rfl
  | _ :: r, w, g, off, k, h => by rw [putN, putN_far r _ _ _ _ h, heap_setCell_other _ _ _ _ h]
theorem putN_blk : ∀ (new : List Value) {w : World} {g ty : Nat} {cs : List Value} (off : Nat), Blk w g ty cs → Blk (putN w g off new) g ty (setN cs off new)
  | [], _, _, _, _, _, h => h
  | c :: r, _, _, _, _, off, h => putN_blk r (off + 1) (h.set_ off c)
theorem putN_below : ∀ (new : List Value) {B : Nat} {a w : World} {g : Nat} (off : Nat), Below B a w → B ≤ g → Below B a (putN w g off new)
  | [], _, _, _, _, _, h, _ => h
  | _ :: r, _, _, _, _, off, h, hg => putN_below r (off + 1) (h.setCell hg _) hg
structure KidsD (w : World) (g d : Nat) (rows : Nat → List Value) (ls hs : Nat → Nat) (L : List (List D)) (m : Nat) : Prop where
  in_ : ∀ j, j < m → g < ls j ∧ hs j ≤ w.heap.size
  dis : ∀ i j, i < j → j < m → hs i ≤ ls j
  kid : ∀ j a, j < m → L[j]? = some a → OwnD w (Iv (ls j) (hs j)) (rows j) a
theorem KidsD.step {w w2 : World} {g d : Nat} {rows : Nat → List Value} {ls hs : Nat → Nat} {L : List (List D)} {m : Nat} {new : List Value} {a : List D} (h : KidsD w g d rows ls hs L m) (hb : Below w.heap.size w w2) (hg : g < w.heap.size)
    (ha : L[m]? = some a) (ho : OwnD w2 (Iv w.heap.size w2.heap.size) new a) :
    KidsD w2 g d (fun j => if j = m then new else rows j) (fun j => if j = m then w.heap.size else ls j) (fun j => if j = m then w2.heap.size else hs j) L (m + 1) := by
  have hsz := hb.size
  refine ⟨fun j hj => ?_, fun i j hij hj => ?_, fun j b hj hjb => ?_⟩
  · by_cases e : j = m
    · subst e; simp; exact hg
    · have := h.in_ j (by omega)
      rw [if_neg e, if_neg e]
      omega
  · have e1 : i ≠ m := by omega
    rw [if_neg e1]
    by_cases e : j = m
    · rw [if_pos e]; exact (h.in_ i (by omega)).2
    · rw [if_neg e]; exact h.dis i j hij (by omega)
  · by_cases e : j = m
    · subst e
      rw [ha] at hjb; cases hjb
      rw [if_pos rfl, if_pos rfl, if_pos rfl]; exact ho
    · rw [if_neg e, if_neg e, if_neg e]
      have h1 := (h.in_ j (by omega)).2
      exact (h.kid j b (by omega) hjb).same fun k hk => hb.block k (by have := hk.2; omega)
theorem KidsD.far {w w2 : World} {g d : Nat} {rows : Nat → List Value} {ls hs : Nat → Nat} {L : List (List D)} {m : Nat} (h : KidsD w g d rows ls hs L m) (hs2 : w2.heap.size = w.heap.size) (hf : ∀ k, k ≠ g → w2.heap[k]? = w.heap[k]?) : KidsD w2 g d rows ls hs L m :=
  ⟨fun j hj => ⟨(h.in_ j hj).1, by rw [hs2]; exact (h.in_ j hj).2⟩, h.dis, fun j a hj ha => (h.kid j a hj ha).same fun k hk => hf k (by have := (h.in_ j hj).1; have := hk.1; omega)⟩
theorem KidsD.own {w w' : World} {g n lo : Nat} {rows : Nat → List Value} {ls hs : Nat → Nat} {L : List (List D)} {cs0 : List Value} (hlen : L.length ≤ maxLen)
    (h : KidsD w g (wd n) rows ls hs L L.length) (hb : Blk w g (tyI n) cs0) (hr : RowsN (wd n) cs0 L.length rows) (hlo : lo ≤ g) (hsz : w'.heap.size = w.heap.size) (hf : ∀ j, g ≤ j → w'.heap[j]? = w.heap[j]?) :
    OwnD w' (Iv lo w'.heap.size) [.slice (some ⟨g, 0, none⟩) L.length L.length] [.sl n L] := by
  have hgl := hb.lt
  refine .sl (R2 := fun _ => False) rows (fun j => Iv (ls j) (hs j)) (Nat.le_refl _) hlen (fun e => by cases e) (fun ad e => ?_) (fun j a ha => ?_) (fun j b hj hb' => ?_) (fun i j b hij hj h1 h2 => ?_) (fun _ h => h.elim) .nil
  · cases e
    exact ⟨g, cs0, rfl, ⟨hlo, by omega⟩, id, (hf g (Nat.le_refl _)).trans hb, hr, fun j hj h1 => by have := (h.in_ j hj).1; have := h1.1; omega⟩
  · have hj := lt_of_get ha
    exact (h.kid j a hj ha).same fun q h1 => hf q (by have := (h.in_ j hj).1; have := h1.1; omega)
  · have := h.in_ j hj
    exact ⟨⟨by have := hb'.1; omega, by have := hb'.2; omega⟩, id⟩
  · have := h.dis i j hij hj
    have := h1.2
    have := h2.1
    omega
end Go.Proofs.YtnmomlaimffonaaGreat.Gd
