/- Maps with integers as keys that the call makes out of a literal: insert, kget up. -/
import Derived.Test.YtjglllpemhkkdaaGreatDoorZIm
import Derived.Test.YtjglllpemhkkdaaGreatDoorZTr
import Derived.Test.YtjglllpemhkkdaaGreatDoorZSt4
import Derived.Test.YtjglllpemhkkdaaGreatDoorZF7a
import Derived.Test.YtjglllpemhkkdaaGreatDoorZPz
import Derived.Test.YtjglllpemhkkdaaGreatDoorZDr4f
import Derived.Test.YtjglllpemhkkdaaGreatDoorZE8
import Derived.Test.YtjglllpemhkkdaaGreatDoorZOi
import Derived.Test.YtjglllpemhkkdaaGreatDoorZLhS
set_option maxRecDepth 100000
namespace Go.Proofs.YtjglllpemhkkdaaGreatDoor.Ik
open Go.RowKit Mem Im
open Go.ChangeMaps (setBlock)

abbrev kv (p : Int × Value) : Value × Value := (.int .i64 p.1, p.2)
def KMap (w : World) (b : Nat) (l : List (Int × Value)) : Prop := IMap w b (l.map kv)
def kget (l : List (Int × Value)) (x : Int) : Option Value := (l.find? fun p => p.1 == x).map Prod.snd
section
variable {P : Program} {w w' : World} {b k e t : Nat} {l : List (Int × Value)} {x : Int}
theorem KMap.alloc (h : KMap w b l) (o : Obj) : KMap (w.alloc o) b l := IMap.alloc h o
theorem find_zip (x : Int) : ∀ (l : List (Int × Value)) (m i : Nat), ∃ r, Instr.findNow (.int .i64) (.int .i64 x) (((l.map kv).zipIdx m).map fun p => { key := p.1.1, val := p.1.2, born := p.2 }) i = some r ∧ r.map Prod.snd = kget l x
  | [], _, _ => ⟨none, rfl, rfl⟩
  | p :: l, m, i => by
    by_cases h : x = p.1
    · refine ⟨some (i, p.2), ?_, ?_⟩
      · simp [Instr.findNow, Instr.sameNow, h]
      · simp [kget, h]
    · obtain ⟨r, h1, h2⟩ := find_zip x l (m + 1) (i + 1)
      refine ⟨r, ?_, ?_⟩
      · have hq : (x == p.1) = false := beq_false_of_ne h
        simp only [List.map_cons, List.zipIdx_cons, Instr.findNow, Instr.sameNow, hq, if_true]
        exact h1
      · have h' : ¬ p.1 = x := fun e => h e.symm
        rw [h2]; simp [kget, h']
theorem find_at (hk : P.underlying k = some (.int .i64)) (w : World) : ∃ r, (Instr.findKey k (.int .i64 x) (ent (l.map kv))).run P w = .ok r w ∧ r.map Prod.snd = kget l x := by
  obtain ⟨r, h1, h2⟩ := find_zip x l 0 0
  exact ⟨r, MapKept.run_findKey hk h1, h2⟩
theorem check (hk : P.underlying k = some (.int .i64)) (em : Bool) (w : World) : (Instr.checkKey em 10000 k (.int .i64 x)).run P w = .ok () w :=
  MapKept.run_checkKey hk (by simp [MapKept.IsKey]) em 9999
theorem run_look (h : KMap w b l) (ht : P.underlying t = some (.map k e)) (hk : P.underlying k = some (.int .i64)) {z : Value} (hz : (zeroValue e).run P w = .ok z w) (ok : Bool) :
    (Instr.lookup t (.map (some b)) (.int .i64 x) ok).run P w = .ok (if ok then .tuple #[(kget l x).getD z, .bool (kget l x).isSome] else (kget l x).getD z) w := by
  obtain ⟨r, hf, hr⟩ := find_at (x := x) (l := l) hk w
  unfold Instr.lookup
  cases r with
  | none =>
    rw [← hr]
    simp [Sem.run_bind, run_underlying ht, MapKept.run_getObj_map h, check hk, hf, hz, Result.andThen]
  | some p =>
    rw [← hr]
    simp [Sem.run_bind, run_underlying ht, MapKept.run_getObj_map h, check hk, hf, Result.andThen]
theorem run_upd (h : KMap w b l) (ht : P.underlying t = some (.map k e)) (hk : P.underlying k = some (.int .i64)) (hn : kget l x = none) (v : Value) :
    ∃ w', (Instr.mapUpdate t (.map (some b)) (.int .i64 x) v).run P w = .ok () w' ∧ KMap w' b (l ++ [(x, v)]) ∧ w.grownBy w' (some b) ∧ w'.heap.size = w.heap.size := by
  obtain ⟨r, hf, hr⟩ := find_at (x := x) (l := l) hk w
  rw [hn] at hr
  cases r with
  | some p => cases hr
  | none =>
    refine ⟨setBlock w b (.map (ent (l.map kv ++ [(.int .i64 x, v)])).toArray ((l.map kv).length + 1)), ?_, ?_, ?_, by simp [setBlock]⟩
    · unfold Instr.mapUpdate
      simp [Sem.run_bind, run_underlying ht, MapKept.run_getObj_map h, check hk, hf, Result.andThen, ent_snoc]
      simp [setObj, Sem.run, setBlock]
      unfold KMap IMap at h
      simp [h]
    · have := (MapKept.heap_set (o' := .map (ent (l.map kv ++ [(.int .i64 x, v)])).toArray ((l.map kv).length + 1)) h).1
      unfold KMap IMap
      rw [show (setBlock w b (Obj.map (ent (l.map kv ++ [(.int .i64 x, v)])).toArray ((l.map kv).length + 1))).heap[b]? = _ from this]
      simp
    · exact ⟨rfl, rfl, rfl, by simp [setBlock], fun i _ hi => (MapKept.heap_set h).2 i (fun e1 => hi (by rw [e1]))⟩
end
/-! in a walk -/
section
variable {P : Program} {ops : Array Oper} {rest : List Oper} {o : Oper} {a : Act} {Q : Exit → Act → World → Prop} {w : World} {k e t : Nat}
theorem wpList_put (hg : o.guard = none) (m x v : Operand) (hop : o.op = Op.insert t m x v ∨ o.op = Op.mapUpdate t m x v) (ht : P.underlying t = some (.map k e)) (hk : P.underlying k = some (.int .i64)) (b : Nat) (l : List (Int × Value)) (h : KMap w b l) (kx : Int) (vx : Value)
    (hm : a.eval m = .map (some b)) (hx : a.eval x = .int .i64 kx) (hv : a.eval v = vx) (hn : kget l kx = none) (hK : ∀ w', KMap w' b (l ++ [(kx, vx)]) → w.grownBy w' (some b) → w'.heap.size = w.heap.size → wpList P ops Q rest (a.put o.dst undef) w') : wpList P ops Q (o :: rest) a w := by
  refine wpList_plain hg fun K' hK' => ?_
  obtain ⟨w', hrun, r1, r2, r3⟩ := run_upd h ht hk hn vx
  unfold Oper.wp
  rcases hop with hop | hop
  all_goals
    simp [execOp, hop, hm, hx, hv, hrun, Result.andThen]
    exact hK' _ _ (hK w' r1 r2 r3)
end
end Go.Proofs.YtjglllpemhkkdaaGreatDoor.Ik

/- An expression of the call's own, in a block of its own behind it; what ParseExpr answers, in words for a walk. -/
set_option maxRecDepth 100000
namespace Go.Proofs.YtjglllpemhkkdaaGreatDoor.Tk
open Go.RowKit Go.Lib Go.Sort Com Mem YtjglllpemhkkdaaGreatDoor.Os Ow Tr

structure Boxed (lo b : Nat) (w : World) (K N : Int) (s : List UInt8) (A : Option Addr) (L cc : Nat) (t : T) : Prop where
  own : OwnX lo b w (nv K N s A L cc) t
  box : Blk w b ET [.int .i64 K, .int .i64 N, .string ⟨s.toArray⟩, .slice A L cc]
section
variable {lo b : Nat} {w w' : World} {K N : Int} {s : List UInt8} {A : Option Addr} {L cc : Nat} {t : T}
theorem Boxed.below (h : Boxed lo b w K N s A L cc t) (hb : Below w.heap.size w w') : Boxed lo b w' K N s A L cc t := by
  have hl := h.box.lt
  exact ⟨h.own.same (same_below hb (by omega)), h.box.below hb hl⟩
theorem Boxed.new (h : OwnX lo w.heap.size w (nv K N s A L cc) t) : Boxed lo w.heap.size (w.alloc (.cells #[.int .i64 K, .int .i64 N, .string ⟨s.toArray⟩, .slice A L cc] ET)) K N s A L cc t :=
  ⟨h.same (same_below (box_below _ _) (Nat.le_refl _)), Blk.new w ET _⟩
end
def Ans (t : T) (bad : Int) (w : World) (e : Ending) (w' : World) : Prop :=
  ∃ K N s A L cc, e = .returned (.tuple #[nv K N s A L cc, .int .i64 bad]) ∧ OwnX w.heap.size w'.heap.size w' (nv K N s A L cc) t ∧ Below w.heap.size w w'
theorem ans_ok {S : List UInt8} {t : T} (h : parseR S = .ok t) {w : World} {e : Ending} {w' : World} (hp : ParseOk S w e w') : Ans t (-1) w e w' := by
  unfold ParseOk at hp
  rw [parseV_ok h] at hp
  exact hp
theorem ans_err {S : List UInt8} {a : Int} (h : parseR S = .error a) {w : World} {e : Ending} {w' : World} (hp : ParseOk S w e w') : Ans zeroT a w e w' := by
  unfold ParseOk at hp
  rw [parseV_err h] at hp
  exact hp
open Num Ch

theorem itoa_one {n : Int} (h0 : 0 ≤ n) (h1 : n < 4) : itoa n = [UInt8.ofNat (48 + n.toNat)] := by
  unfold itoa
  rw [if_neg (by omega)]
  exact decDigits_one (by omega)
def Halt (r : List UInt8) : Prop := r = [] ∨ (∃ q, r = 32 :: q) ∨ ∃ q, r = 41 :: q
theorem Halt.word {r : List UInt8} (h : Halt r) : r.takeWhile isWd = [] := by
  rcases h with rfl | ⟨q, rfl⟩ | ⟨q, rfl⟩
  · rfl
  · rw [List.takeWhile_cons]; rfl
  · rw [List.takeWhile_cons]; rfl
theorem Halt.dig {r : List UInt8} (h : Halt r) : r.head?.any isDig = false := by
  rcases h with rfl | ⟨q, rfl⟩ | ⟨q, rfl⟩ <;> rfl
theorem lex_name {s : List UInt8} (h : NameS s) {r : List UInt8} (hr : Halt r) (a : Nat) {out : List Tok} (ho : out.length ≠ 150) : lex (s ++ r) a out = lex r (a + s.length) (out ++ [⟨1, 0, a, s⟩]) := by
  obtain ⟨b, q, rfl, hb, hall, h8⟩ := h
  have hw : wordLen (b :: (q ++ r)) = (b :: q).length := by
    unfold wordLen
    rw [show b :: (q ++ r) = (b :: q) ++ r from rfl, List.takeWhile_append_of_pos hall, hr.word, List.append_nil]
  have hL : tokL b (q ++ r) = (b :: q).length := by
    unfold tokL; rw [if_pos hb, hw, if_pos h8]
  have hV : tokV b (q ++ r) a = ⟨1, 0, a, b :: q⟩ := by
    unfold tokV
    rw [if_pos hb, hw, show b :: (q ++ r) = (b :: q) ++ r from rfl, List.take_left]
  rw [List.cons_append, lex_tok (low_cls hb) (by rw [hL]; simp) ho, hL, hV, show b :: (q ++ r) = (b :: q) ++ r from rfl, List.drop_left]
theorem lex_num {n : Int} (h0 : 0 ≤ n) (h4 : n < 4) {r : List UInt8} (hr : Halt r) (a : Nat) {out : List Tok} (ho : out.length ≠ 150) : lex (itoa n ++ r) a out = lex r (a + (itoa n).length) (out ++ [⟨2, n, a, []⟩]) := by
  have ht : itoa n = [UInt8.ofNat (48 + n.toNat)] := itoa_one h0 h4
  have hb : (UInt8.ofNat (48 + n.toNat)).toNat = 48 + n.toNat := by rw [UInt8.toNat_ofNat']; omega
  have hd : isDig (UInt8.ofNat (48 + n.toNat)) = true := isDig_mk (by omega) (by omega)
  rw [ht]
  generalize UInt8.ofNat (48 + n.toNat) = b at *
  have hL : tokL b r = 1 := by
    unfold tokL
    rw [if_neg (by rw [(dig_cls hd).2]; simp), if_pos hd, if_pos]
    unfold numOk
    rw [hr.dig, Bool.and_eq_true, decide_eq_true_eq]
    exact ⟨by omega, rfl⟩
  have hV : tokV b r a = ⟨2, n, a, []⟩ := by
    unfold tokV
    rw [if_neg (by rw [(dig_cls hd).2]; simp), if_pos hd, hb, show ((48 + n.toNat : Nat) : Int) - 48 = n by omega]
  show lex (b :: r) a out = _
  rw [lex_tok (dig_cls hd).1 (by rw [hL]; simp) ho, hL, hV]
  rfl
theorem lex_sym {b : UInt8} (h1 : b.toNat ∈ ones) (r : List UInt8) (a : Nat) {out : List Tok} (ho : out.length ≠ 150) : lex (b :: r) a out = lex r (a + 1) (out ++ [⟨3, 0, a, [b]⟩]) := by
  obtain ⟨c1, c2, c3⟩ := ones_cls h1
  have hS : symL b r = 1 := by unfold symL; rw [if_pos h1]
  have hL : tokL b r = 1 := by unfold tokL; rw [if_neg (by rw [c2]; simp), if_neg (by rw [c3]; simp), hS]
  have hV : tokV b r a = ⟨3, 0, a, [b]⟩ := by
    unfold tokV
    rw [if_neg (by rw [c2]; simp), if_neg (by rw [c3]; simp), hS]
    rfl
  rw [lex_tok c1 (by rw [hL]; simp) ho, hL, hV]
  rfl
theorem lex_two {b : UInt8} (h2 : b.toNat = 61 ∨ b.toNat = 58) (r : List UInt8) (a : Nat) {out : List Tok} (ho : out.length ≠ 150) : lex (b :: 61 :: r) a out = lex r (a + 2) (out ++ [⟨3, 0, a, [b, 61]⟩]) := by
  obtain ⟨c1, c2, c3, c4⟩ := two_cls h2
  have hS : symL b (61 :: r) = 2 := by unfold symL; rw [if_neg c4, if_pos ⟨h2, rfl⟩]
  have hL : tokL b (61 :: r) = 2 := by unfold tokL; rw [if_neg (by rw [c2]; simp), if_neg (by rw [c3]; simp), hS]
  have hV : tokV b (61 :: r) a = ⟨3, 0, a, [b, 61]⟩ := by
    unfold tokV
    rw [if_neg (by rw [c2]; simp), if_neg (by rw [c3]; simp), hS]
    rfl
  rw [lex_tok c1 (by rw [hL]; simp) ho, hL, hV]
  rfl
theorem lex_op {n : Int} (h : 1 ≤ n ∧ n ≤ 8) (r : List UInt8) (a : Nat) {out : List Tok} (ho : out.length ≠ 150) :
    lex (32 :: (C3.symL n ++ 32 :: r)) a out = lex r (a + (C3.symL n).length + 2) (out ++ [⟨3, 0, ((a + 1 : Nat) : Int), C3.symL n⟩]) := by
  have one : ∀ b : UInt8, b.toNat ∈ ones → lex (32 :: b :: 32 :: r) a out = lex r (a + 1 + 2) (out ++ [⟨3, 0, ((a + 1 : Nat) : Int), [b]⟩]) := fun b hb => by
    rw [lex_sep rfl, lex_sym hb _ _ ho, lex_sep rfl]
  rcases C3.op_cases h.1 h.2 with rfl | rfl | rfl | rfl | rfl | rfl | rfl | rfl
  · exact one 43 (by decide)
  · exact one 45 (by decide)
  · exact one 42 (by decide)
  · exact one 47 (by decide)
  · exact one 60 (by decide)
  · show lex (32 :: 61 :: 61 :: 32 :: r) a out = _
    rw [lex_sep rfl, lex_two (Or.inl rfl) _ _ ho, lex_sep rfl]
    rfl
  · exact one 38 (by decide)
  · exact one 124 (by decide)

def st (t : Tok) : Tok := ⟨t.k, t.n, 0, t.s⟩
abbrev lpT : Tok := ⟨3, 0, 0, [40]⟩
abbrev rpT : Tok := ⟨3, 0, 0, [41]⟩
abbrev symT (n : Int) : Tok := ⟨3, 0, 0, C3.symL n⟩
def parK (l : List Tok) (b : Bool) : List Tok := if b = true then lpT :: (l ++ [rpT]) else l
def tkT : T → List Tok
  | .mk k n s ks =>
    if k = 1 then [⟨2, n, 0, []⟩] else if k = 2 then [⟨1, 0, 0, s⟩] else
      match ks with
      | [a] => ⟨3, 0, 0, [33]⟩ :: parK (tkT a) (decide (lvlT a < 6))
      | [a, b] => parK (tkT a) (decide (lvlT a < if lvl k n = 3 then 4 else lvl k n)) ++ symT n :: parK (tkT b) (decide (lvlT b < lvl k n + 1))
      | _ => []
termination_by t => SizeOf.sizeOf t
theorem tk_1 (n : Int) (s : List UInt8) (ks : List T) : tkT (.mk 1 n s ks) = [⟨2, n, 0, []⟩] := by unfold tkT; rfl
theorem tk_2 (n : Int) (s : List UInt8) (ks : List T) : tkT (.mk 2 n s ks) = [⟨1, 0, 0, s⟩] := by unfold tkT; rfl
theorem tk_4 (n : Int) (s : List UInt8) (a : T) : tkT (.mk 4 n s [a]) = ⟨3, 0, 0, [33]⟩ :: parK (tkT a) (decide (lvlT a < 6)) := by rw [tkT]; rfl
theorem tk_3 (n : Int) (s : List UInt8) (a b : T) : tkT (.mk 3 n s [a, b]) = parK (tkT a) (decide (lvlT a < if lvl 3 n = 3 then 4 else lvl 3 n)) ++ symT n :: parK (tkT b) (decide (lvlT b < lvl 3 n + 1)) := by rw [tkT]; rfl
theorem parK_len (l : List Tok) (b : Bool) : l.length ≤ (parK l b).length ∧ (parK l b).length ≤ l.length + 2 := by
  unfold parK
  split
  · simp only [List.length_cons, List.length_append, List.length_nil]; omega
  · omega
theorem tk_len (t : T) : allT t = true → (tkT t).length ≤ 5 * cntT t := by
  induction t using T.ind with
  | h k n s ks ih =>
    intro hall
    have hnode : nodeB k n s ks.length = true := by rw [allT_mk, Bool.and_eq_true] at hall; exact hall.2
    have hc := cntT_mk k n s ks
    rcases node_cases hnode with rfl | rfl | ⟨rfl, a, b, rfl⟩ | ⟨rfl, a, rfl⟩
    · rw [tk_1]; simp only [List.length_cons, List.length_nil]; omega
    · rw [tk_2]; simp only [List.length_cons, List.length_nil]; omega
    · rw [tk_3]
      have h1 := ih a (by simp) (allT_2 hall).1
      have h2 := ih b (by simp) (allT_2 hall).2
      have hpa := parK_len (tkT a) (decide (lvlT a < if lvl 3 n = 3 then 4 else lvl 3 n))
      have hpb := parK_len (tkT b) (decide (lvlT b < lvl 3 n + 1))
      simp only [cntK, List.map_cons, List.map_nil, List.sum_cons, List.sum_nil] at hc
      simp only [List.length_append, List.length_cons]
      omega
    · rw [tk_4]
      have h1 := ih a (by simp) (allT_1 hall)
      have hpa := parK_len (tkT a) (decide (lvlT a < 6))
      simp only [cntK, List.map_cons, List.map_nil, List.sum_cons, List.sum_nil] at hc
      simp only [List.length_cons]
      omega
theorem valid_name {s : List UInt8} (h : C2.validB s = true) : NameS s := by
  unfold C2.validB at h
  rw [Bool.and_eq_true, Bool.and_eq_true, decide_eq_true_eq] at h
  obtain ⟨h8, hs, _⟩ := h
  cases s with
  | nil => cases hs
  | cons b r =>
    unfold C2.shape at hs
    rw [Bool.and_eq_true, List.all_eq_true] at hs
    refine ⟨b, r, rfl, hs.1, fun x hx => ?_, h8⟩
    rcases List.mem_cons.1 hx with rfl | hx
    · exact low_wd hs.1
    · exact hs.2 x hx
def LexS (x : List UInt8) (l : List Tok) : Prop := ∀ (r : List UInt8) (a : Nat) (out : List Tok), Halt r → out.length + l.length ≤ 150 → ∃ L, lex (x ++ r) a out = lex r (a + x.length) (out ++ L) ∧ L.map st = l
theorem lexS_par {x : List UInt8} {l : List Tok} (h : LexS x l) (b : Bool) : LexS (paren x b) (parK l b) := by
  intro r a out hr ho
  unfold paren parK at *
  cases b with
  | false => exact h r a out hr ho
  | true =>
    simp only [if_true] at *
    simp only [List.length_cons, List.length_append, List.length_nil] at ho ⊢
    obtain ⟨L, e, hL⟩ := h (41 :: r) (a + 1) (out ++ [⟨3, 0, a, [40]⟩]) (Or.inr (Or.inr ⟨r, rfl⟩)) (by simp only [List.length_append, List.length_cons, List.length_nil]; omega)
    have hLl : L.length = l.length := by rw [← hL, List.length_map]
    refine ⟨⟨3, 0, a, [40]⟩ :: (L ++ [⟨3, 0, ((a + 1 + x.length : Nat) : Int), [41]⟩]), ?_, ?_⟩
    · rw [List.cons_append, lex_sym (by decide) _ _ (by omega), List.append_assoc, show [41] ++ r = 41 :: r from rfl, e, lex_sym (by decide) _ _ (by simp only [List.length_append, List.length_cons, List.length_nil]; omega)]
      congr 1
      · omega
      · simp
    · simp [hL, st]
theorem lex_txt (t : T) : allT t = true → LexS (txtT7 t) (tkT t) := by
  induction t using T.ind with
  | h k n s ks ih =>
    intro hall
    have hnode : nodeB k n s ks.length = true := by rw [allT_mk, Bool.and_eq_true] at hall; exact hall.2
    rcases node_cases hnode with rfl | rfl | ⟨rfl, a, b, rfl⟩ | ⟨rfl, a, rfl⟩
    · unfold nodeB at hnode
      rw [if_pos rfl, Bool.and_eq_true] at hnode
      have hw := C3.isW_iff.1 hnode.1
      rw [txt7_1, tk_1]
      intro r p out hr ho
      simp only [List.length_cons, List.length_nil] at ho
      exact ⟨[⟨2, n, p, []⟩], lex_num hw.1 hw.2 hr p (by omega), rfl⟩
    · unfold nodeB at hnode
      rw [if_neg (by decide), if_pos rfl, Bool.and_eq_true] at hnode
      rw [txt7_2, tk_2]
      intro r p out hr ho
      simp only [List.length_cons, List.length_nil] at ho
      exact ⟨[⟨1, 0, p, s⟩], lex_name (valid_name hnode.1) hr p (by omega), rfl⟩
    · have hop : 1 ≤ n ∧ n ≤ 8 := by
        unfold nodeB at hnode
        rw [if_neg (by decide), if_neg (by decide), if_pos rfl, Bool.and_eq_true] at hnode
        have := hnode.1
        simp only [C3.inB, Bool.and_eq_true, decide_eq_true_eq] at this
        omega
      have hA := lexS_par (ih a (by simp) (allT_2 hall).1) (decide (lvlT a < if lvl 3 n = 3 then 4 else lvl 3 n))
      have hB := lexS_par (ih b (by simp) (allT_2 hall).2) (decide (lvlT b < lvl 3 n + 1))
      rw [txt7_3, tk_3]
      generalize paren (txtT7 a) (decide (lvlT a < if lvl 3 n = 3 then 4 else lvl 3 n)) = xa at *
      generalize paren (txtT7 b) (decide (lvlT b < lvl 3 n + 1)) = xb at *
      generalize parK (tkT a) (decide (lvlT a < if lvl 3 n = 3 then 4 else lvl 3 n)) = la at *
      generalize parK (tkT b) (decide (lvlT b < lvl 3 n + 1)) = lb at *
      intro r p out hr ho
      simp only [List.length_append, List.length_cons] at ho
      have e0 : xa ++ [32] ++ C3.symL n ++ [32] ++ xb ++ r = xa ++ (32 :: (C3.symL n ++ 32 :: (xb ++ r))) := by simp
      obtain ⟨L1, e1, h1⟩ := hA (32 :: (C3.symL n ++ 32 :: (xb ++ r))) p out (Or.inr (Or.inl ⟨_, rfl⟩)) (by omega)
      have hl1 : L1.length = la.length := by rw [← h1, List.length_map]
      obtain ⟨L2, e2, h2⟩ := hB r (p + xa.length + (C3.symL n).length + 2) (out ++ L1 ++ [⟨3, 0, ((p + xa.length + 1 : Nat) : Int), C3.symL n⟩]) hr (by simp only [List.length_append, List.length_cons, List.length_nil]; omega)
      refine ⟨L1 ++ ⟨3, 0, ((p + xa.length + 1 : Nat) : Int), C3.symL n⟩ :: L2, ?_, ?_⟩
      · rw [e0, e1, lex_op hop _ _ (by simp only [List.length_append]; omega), e2]
        congr 1
        · simp only [List.length_append, List.length_cons, List.length_nil]; omega
        · simp
      · rw [List.map_append, List.map_cons, h1, h2]; rfl
    · have hA := lexS_par (ih a (by simp) (allT_1 hall)) (decide (lvlT a < 6))
      rw [txt7_4, tk_4]
      generalize paren (txtT7 a) (decide (lvlT a < 6)) = xa at *
      generalize parK (tkT a) (decide (lvlT a < 6)) = la at *
      intro r p out hr ho
      simp only [List.length_cons] at ho
      obtain ⟨L1, e1, h1⟩ := hA r (p + 1) (out ++ [⟨3, 0, p, [33]⟩]) hr (by simp only [List.length_append, List.length_cons, List.length_nil]; omega)
      refine ⟨⟨3, 0, p, [33]⟩ :: L1, ?_, ?_⟩
      · rw [List.cons_append, lex_sym (by decide) _ _ (by omega), e1]
        congr 1
        · simp only [List.length_cons]; omega
        · simp
      · rw [List.map_cons, h1]; rfl
end Go.Proofs.YtjglllpemhkkdaaGreatDoor.Tk

/- Chapter 7's draws: DrawFormatExpr, DrawNormalizeExpr. -/
set_option maxRecDepth 100000
namespace Go.Proofs.YtjglllpemhkkdaaGreatDoor.Dr
open Go.RowKit Go.Lib Com Mem Cur YtjglllpemhkkdaaGreatDoor.Os Tr
set_option maxHeartbeats 400000 in
theorem drawNormalize (A : Option Addr) (c : Nat) (xs : List UInt8) (w : World) (hr : Rd w w.heap.size A (xs.map bv)) (hn : xs.length ≤ 1048576) :
    Calls Tryz.prog 11 #[.slice A xs.length c] w fun e w' => UpTo 400 e ∧ Below w.heap.size w w' := by
  have h1 := hid (drawParse A c xs w hr hn)
  clear hr hn
  go_enter Tryz.func11, Tryz.ntmps11
  go_wp2_with fail
  refine h1.out.mono ?_
  rintro e w1 ⟨⟨S, rfl, hS⟩, hb⟩
  have hb := hid hb
  go_wp2_with fail
  go_ret
  exact ⟨⟨S, rfl, hS⟩, hb.out⟩
end Go.Proofs.YtjglllpemhkkdaaGreatDoor.Dr

/- The model's functions on expressions, in the exact laws' words. -/
set_option maxRecDepth 100000
namespace Go.Proofs.YtjglllpemhkkdaaGreatDoor.Tr
open Go.RowKit Go.Lib Com Mem YtjglllpemhkkdaaGreatDoor.Os YtjglllpemhkkdaaGreatDoor.Nm
section
variable {lo hi lo' hi' lo2 hi2 : Nat} {v v' v2 : Value} {t : T}
end
end Go.Proofs.YtjglllpemhkkdaaGreatDoor.Tr
