/- Statements as trees whose lists are those that are written. -/
import Derived.Test.YtiogceepjffmkaaGreatDoorYKs
import Derived.Test.YtiogceepjffmkaaGreatDoorYRx8
set_option maxHeartbeats 2000000
set_option maxRecDepth 100000
namespace Go.Proofs.YtiogceepjffmkaaGreatDoor.Kd
open Go.RowKit Tr Gd
def kidsW : St → List (List St)
  | .mk k _ _ bs es => if k = 2 then [bs, es] else if k = 3 then [bs] else []
mutual
def cntW : St → Nat
  | .mk k _ _ bs es => 1 + ((if k = 2 then cntWL bs else if k = 3 then cntWL bs else 0) + (if k = 2 then cntWL es else 0))
def cntWL : List St → Nat
  | [] => 0
  | a :: r => cntW a + cntWL r
end
mutual
def depW : St → Nat
  | .mk k _ _ bs es => 1 + Nat.max (if k = 2 then depWL bs else if k = 3 then depWL bs else 0) (if k = 2 then depWL es else 0)
def depWL : List St → Nat
  | [] => 0
  | a :: r => Nat.max (depW a) (depWL r)
end
theorem cntWL_sum (L : List St) : cntWL L = (L.map cntW).sum := by
  induction L with
  | nil => simp [cntWL]
  | cons a r ih => simp [cntWL, ih]
theorem depWL_mx (L : List St) : depWL L = mx depW L := by
  induction L with
  | nil => simp [depWL, mx]
  | cons a r ih => simp [depWL, mx, ih]
def kdW : Kd St where
  kids := kidsW
  cnt := cntW
  dep := depW
  cnt_eq := fun t => by
    obtain ⟨k, s, e, bs, es⟩ := t
    rw [cntW, cntWL_sum, cntWL_sum]
    unfold kidsW
    by_cases h2 : k = 2
    · simp [h2]
    · by_cases h3 : k = 3
      · simp [h3]
      · simp [h2, h3]
  dep_eq := fun t => by
    obtain ⟨k, s, e, bs, es⟩ := t
    rw [depW, depWL_mx, depWL_mx]
    by_cases h2 : k = 2
    · simp only [kidsW, if_pos h2]
      show 1 + Nat.max (mx depW bs) (mx depW es) = 1 + Nat.max (mx depW bs) (Nat.max (mx depW es) 0)
      rw [show Nat.max (mx depW es) 0 = mx depW es from Nat.max_eq_left (Nat.zero_le _)]
    · by_cases h3 : k = 3
      · simp only [kidsW, if_neg h2, if_pos h3]
        rfl
      · simp only [kidsW, if_neg h2, if_neg h3]
        rfl
  two := fun t => by
    obtain ⟨k, s, e, bs, es⟩ := t
    unfold kidsW
    by_cases h2 : k = 2
    · simp [h2]
    · by_cases h3 : k = 3
      · simp [h3]
      · simp [h2, h3]
theorem cntW_le (t : St) : cntW t ≤ cntSt t := by
  induction t using St.ind with
  | h k s e bs es h1 h2 =>
    have sub : ∀ L : List St, (∀ a ∈ L, cntW a ≤ cntSt a) → cntWL L ≤ Gd.cntL L := fun L h => by
      induction L with
      | nil => simp [cntWL]
      | cons a r ih =>
        have := h a (by simp)
        have := ih fun b hb => h b (by simp [hb])
        simp only [cntWL, Gd.cntL]; omega
    have g1 := sub bs h1
    have g2 := sub es h2
    rw [cntW, cntSt]
    by_cases h2 : k = 2
    · rw [if_pos h2, if_pos h2]; omega
    · rw [if_neg h2, if_neg h2]
      by_cases h3 : k = 3
      · rw [if_pos h3]; omega
      · rw [if_neg h3]; omega
theorem cntL_W (t : St) : kdW.cntL [t] ≤ cntSt t := by
  have := cntW_le t
  rw [Kd.cntL_cons, Kd.cntL_nil]
  show cntW t + 0 ≤ _
  omega
section
variable {τ : Type} {K : Kd τ} {P : LN τ → Prop} {N Dp nodes depth m : Nat} {S : List (LN τ)} {Lf Bl : He τ} {cur : List τ} {ls : List (List τ)}
theorem depL_pos {l : List τ} (h : l ≠ []) : 1 ≤ K.depL l := by
  cases l with
  | nil => exact absurd rfl h
  | cons a r =>
    have h1 := K.dep_pos a
    have h2 : K.dep a ≤ mx K.dep (a :: r) := mx_mem (by simp)
    exact Nat.le_trans h1 h2
theorem ZX.deep (h : ZX K P N Dp nodes depth S Lf m cur ls Bl) : depth + 1 ≤ Dp := by
  rcases h.wit with ⟨t, _, e⟩ | ⟨p, hp, e⟩ | ⟨l, _, e⟩ | ⟨p, hp, e⟩ | e
  · have := K.dep_pos t; omega
  · have := depL_pos (K := K) (h.neL p hp).1; omega
  · omega
  · omega
  · omega
theorem ZX.pad (h : ZX K P N Dp nodes depth S Lf m cur ls Bl) {ls' : List (List τ)} (hc : K.cntLL ls' = K.cntLL ls) (h1 : ∀ l ∈ ls', l ∈ ls ∨ l = []) (h2 : ∀ l ∈ ls, l ∈ ls' ∨ l = []) : ZX K P N Dp nodes depth S Lf m cur ls' Bl := by
  have hd := h.deep
  have h0 : K.depL ([] : List τ) = 0 := rfl
  refine ⟨by rw [hc]; exact h.cnt, h.upC, h.upL, fun l hl => ?_, h.dn, ?_, h.seen, h.now, h.neL, h.neB, h.inL, h.inB, h.inS⟩
  · rcases h1 l hl with h3 | rfl
    · exact h.upK l h3
    · omega
  · rcases h.wit with h3 | h3 | ⟨l, hl, e⟩ | h3
    · exact Or.inl h3
    · exact Or.inr (Or.inl h3)
    · rcases h2 l hl with h4 | rfl
      · exact Or.inr (Or.inr (Or.inl ⟨l, h4, e⟩))
      · exact Or.inr (Or.inr (Or.inr (Or.inr (by omega))))
    · exact Or.inr (Or.inr (Or.inr h3))
end
end Go.Proofs.YtiogceepjffmkaaGreatDoor.Kd
set_option maxRecDepth 100000
namespace Go.Proofs.YtiogceepjffmkaaGreatDoor.Gd
open Go.RowKit Go.Lib Num Mem Ch Tr Tk
def nsp : Bool → List UInt8 → List UInt8
  | _, [] => []
  | b, c :: r => if c = 32 then nsp true r else (if b = true then [32] else []) ++ (c :: nsp false r)
def Asc (x : List UInt8) : Prop := ∀ c ∈ x, c.toNat < 128
theorem Asc.app {x y : List UInt8} (h : Asc x) (k : Asc y) : Asc (x ++ y) := fun c hc => by
  rcases List.mem_append.1 hc with h1 | h1
  · exact h c h1
  · exact k c h1
theorem Asc.cons {c : UInt8} {y : List UInt8} (h : c.toNat < 128) (k : Asc y) : Asc (c :: y) := fun d hd => by
  rcases List.mem_cons.1 hd with rfl | h1
  · exact h
  · exact k d h1
structure Nrm (x : List UInt8) : Prop where
  go : ∀ b r, nsp b (x ++ r) = (if b = true then [32] else []) ++ (x ++ nsp false r)
  asc : Asc x
theorem Nrm.one {c : UInt8} (h : c ≠ 32) (ha : c.toNat < 128) : Nrm [c] := ⟨fun b r => by
  show nsp b (c :: r) = _
  rw [nsp, if_neg h]; rfl, Asc.cons ha (fun _ hd => by cases hd)⟩
theorem Nrm.app {x y : List UInt8} (h : Nrm x) (k : Nrm y) : Nrm (x ++ y) := ⟨fun b r => by
  rw [List.append_assoc, h.go, k.go]
  simp, h.asc.app k.asc⟩
theorem Nrm.sp {x y : List UInt8} (h : Nrm x) (k : Nrm y) : Nrm (x ++ 32 :: y) := ⟨fun b r => by
  rw [List.append_assoc, h.go, List.cons_append, nsp, if_pos rfl, k.go]
  simp, h.asc.app (Asc.cons (by decide) k.asc)⟩
theorem Nrm.of {x : List UInt8} (hne : x ≠ []) (h : ∀ c ∈ x, c ≠ 32 ∧ c.toNat < 128) : Nrm x := by
  induction x with
  | nil => exact absurd rfl hne
  | cons c r ih =>
    by_cases hr : r = []
    · subst hr; exact Nrm.one (h c (by simp)).1 (h c (by simp)).2
    · have := (Nrm.one (h c (by simp)).1 (h c (by simp)).2).app (ih hr fun d hd => h d (by simp [hd]))
      simpa using this
theorem wd_nrm {c : UInt8} (h : isWd c = true) : c ≠ 32 ∧ c.toNat < 128 := by
  unfold isWd isLow isDig at h
  simp only [Bool.or_eq_true, Bool.and_eq_true, decide_eq_true_eq] at h
  have hn : c.toNat < 128 ∧ c.toNat ≠ 32 := by omega
  exact ⟨fun e => hn.2 (by rw [e]; rfl), hn.1⟩
theorem nameS_nrm {s : List UInt8} (h : NameS s) : Nrm s := by
  obtain ⟨b, q, rfl, hb, hall, _⟩ := h
  exact Nrm.of (by simp) fun c hc => wd_nrm (hall c hc)
theorem symL_nrm {n : Int} (h : 1 ≤ n ∧ n ≤ 8) : Nrm (C3.symL n) := by
  rcases C3.op_cases h.1 h.2 with rfl | rfl | rfl | rfl | rfl | rfl | rfl | rfl <;> exact Nrm.of (by decide) (by decide)
theorem paren_nrm {x : List UInt8} (h : Nrm x) (b : Bool) : Nrm (paren x b) := by
  unfold paren
  cases b with
  | false => exact h
  | true => exact (Nrm.one (c := 40) (by decide) (by decide)).app (h.app (Nrm.one (c := 41) (by decide) (by decide)))
theorem txt_nrm (t : T) : allT t = true → Nrm (txtT7 t) := by
  induction t using T.ind with
  | h k n s ks ih =>
    intro hall
    have hnode : nodeB k n s ks.length = true := by rw [allT_mk, Bool.and_eq_true] at hall; exact hall.2
    rcases node_cases hnode with rfl | rfl | ⟨rfl, a, b, rfl⟩ | ⟨rfl, a, rfl⟩
    · unfold nodeB at hnode
      rw [if_pos rfl, Bool.and_eq_true] at hnode
      have hw := C3.isW_iff.1 hnode.1
      rw [txt7_1, itoa_one hw.1 hw.2]
      have hb : (UInt8.ofNat (48 + n.toNat)).toNat = 48 + n.toNat := by rw [UInt8.toNat_ofNat']; omega
      exact Nrm.one (fun e => by rw [e] at hb; have : (32 : UInt8).toNat = 32 := rfl; omega) (by omega)
    · unfold nodeB at hnode
      rw [if_neg (by decide), if_pos rfl, Bool.and_eq_true] at hnode
      rw [txt7_2]
      exact nameS_nrm (valid_name hnode.1)
    · have hop : 1 ≤ n ∧ n ≤ 8 := by
        unfold nodeB at hnode
        rw [if_neg (by decide), if_neg (by decide), if_pos rfl, Bool.and_eq_true] at hnode
        have := hnode.1
        simp only [C3.inB, Bool.and_eq_true, decide_eq_true_eq] at this
        omega
      have hA := paren_nrm (ih a (by simp) (allT_2 hall).1) (decide (lvlT a < if lvl 3 n = 3 then 4 else lvl 3 n))
      have hB := paren_nrm (ih b (by simp) (allT_2 hall).2) (decide (lvlT b < lvl 3 n + 1))
      rw [txt7_3]
      have := hA.sp ((symL_nrm hop).sp hB)
      simpa using this
    · have hA := paren_nrm (ih a (by simp) (allT_1 hall)) (decide (lvlT a < 6))
      rw [txt7_4]
      exact (Nrm.one (c := 33) (by decide) (by decide)).app hA
theorem X_nrm {e : T} (he : okT e = true) : Nrm (fmtX e) := by
  have : fmtX e = txtT7 e := by unfold fmtX; rw [if_pos he]
  rw [this]
  exact txt_nrm e (ok_parts he).2
theorem J_nrm {x : List UInt8} (hx : Nrm x) (L : List St) (h : ∀ a ∈ L, Nrm (tSt a)) : Nrm (x ++ tJ L) := by
  induction L generalizing x with
  | nil => rw [tJ, List.append_nil]; exact hx
  | cons a r ih =>
    have := ih (hx.sp (h a (by simp))) fun b hb => h b (by simp [hb])
    rw [tJ]
    simpa using this
theorem B_nrm {L : List St} (h : ∀ a ∈ L, Nrm (tSt a)) : Nrm (tB L) := by
  have := (J_nrm (Nrm.one (c := 123) (by decide) (by decide)) L h).sp (Nrm.one (c := 125) (by decide) (by decide))
  unfold tB
  simpa using this
theorem st_nrm {V : List (List UInt8)} (hV : ∀ x ∈ V, C2.validB x = true) (t : St) : OkS V t → Nrm (tSt t) := by
  induction t using St.ind with
  | h k s e bs es ih1 ih2 =>
    intro h
    rw [tSt_mk]
    cases h with
    | asg hs he =>
      rw [if_pos rfl]
      have := (nameS_nrm (valid_name (hV s hs))).sp ((Nrm.of (x := [58, 61]) (by decide) (by decide)).sp ((X_nrm he).sp (Nrm.one (c := 59) (by decide) (by decide))))
      simpa using this
    | emit he =>
      rw [if_neg (by decide), if_pos rfl]
      have := (nameS_nrm kw_name.1).sp ((X_nrm he).sp (Nrm.one (c := 59) (by decide) (by decide)))
      simpa using this
    | loop he hb =>
      rw [if_neg (by decide), if_neg (by decide), if_pos rfl]
      have := (nameS_nrm kw_name.2.1).sp ((X_nrm he).sp (B_nrm fun a ha => ih1 a ha (hb a ha)))
      simpa using this
    | cond he hb hc =>
      rw [if_neg (by decide), if_neg (by decide), if_neg (by decide), if_pos rfl]
      have hB := B_nrm fun a ha => ih1 a ha (hb a ha)
      have hC := B_nrm fun a ha => ih2 a ha (hc a ha)
      split
      · have := (nameS_nrm kw_name.2.2.1).sp ((X_nrm he).sp (hB.sp ((nameS_nrm kw_name.2.2.2.1).sp hC)))
        simpa using this
      · have := (nameS_nrm kw_name.2.2.1).sp ((X_nrm he).sp hB)
        simpa using this
def jn : List (List UInt8) → List UInt8
  | [] => []
  | [a] => a
  | a :: b :: r => a ++ 32 :: jn (b :: r)
theorem jn_nrm (b : Bool) (L : List (List UInt8)) (h : ∀ a ∈ L, Nrm a) (r : List UInt8) : nsp b (32 :: (jn L ++ (32 :: r))) = vJ L ++ nsp true r := by
  induction L generalizing b with
  | nil => rw [nsp, if_pos rfl, jn, List.nil_append, nsp, if_pos rfl, vJ, List.nil_append]
  | cons a q ih =>
    have ha := h a (by simp)
    cases q with
    | nil =>
      rw [nsp, if_pos rfl, jn, ha.go, nsp, if_pos rfl, vJ, vJ]
      simp
    | cons c q =>
      rw [nsp, if_pos rfl, jn, List.append_assoc, ha.go, List.cons_append, ih false fun x hx => h x (by simp [hx]), show vJ (a :: c :: q) = 32 :: (a ++ vJ (c :: q)) from rfl]
      simp
theorem jn_end (b : Bool) (L : List (List UInt8)) (h : ∀ a ∈ L, Nrm a) : nsp b (32 :: jn L) = vJ L := by
  induction L generalizing b with
  | nil => rw [nsp, if_pos rfl, jn, vJ]; rfl
  | cons a q ih =>
    have ha := h a (by simp)
    cases q with
    | nil =>
      have := ha.go true []
      rw [List.append_nil] at this
      rw [nsp, if_pos rfl, jn, this, vJ, vJ]
      simp [nsp]
    | cons c q =>
      rw [nsp, if_pos rfl, jn, ha.go, ih false fun x hx => h x (by simp [hx]), show vJ (a :: c :: q) = 32 :: (a ++ vJ (c :: q)) from rfl]
      simp
theorem vJ_tL (L : List St) : vJ (tL L) = tJ L := by
  induction L with
  | nil => rfl
  | cons a r ih =>
    show vJ (tSt a :: tL r) = _
    rw [vJ, tJ, ih]
theorem jn_asc (L : List (List UInt8)) (h : ∀ a ∈ L, Nrm a) : Asc (jn L) := by
  induction L with
  | nil => rw [jn]; exact fun _ hd => by cases hd
  | cons a q ih =>
    cases q with
    | nil => rw [jn]; exact (h a (by simp)).asc
    | cons c q => rw [jn]; exact (h a (by simp)).asc.app (Asc.cons (by decide) (ih fun x hx => h x (by simp [hx])))
def rawP (V : List (List UInt8)) (L : List St) : List UInt8 := ([118, 97, 114, 115, 32] ++ jn V ++ [32, 59, 32]) ++ jn (tL L)
theorem raw_nrm {p : Pg} (h : okP p = true) : nsp false (rawP p.vs p.body) = fmtP p ∧ Asc (rawP p.vs p.body) := by
  obtain ⟨hV, hS⟩ := ok_prog h
  have h1 : ∀ a ∈ p.vs, Nrm a := fun a ha => nameS_nrm (valid_name (hV a ha))
  have h2 : ∀ a ∈ tL p.body, Nrm a := fun a ha => by
    obtain ⟨t, ht, rfl⟩ := List.mem_map.1 ha
    exact st_nrm hV t (hS t ht)
  have e0 : rawP p.vs p.body = varsW ++ 32 :: (jn p.vs ++ 32 :: ([59] ++ 32 :: jn (tL p.body))) := by unfold rawP; simp
  have hf : fmtP p = varsW ++ (vJ p.vs ++ (32 :: ([59] ++ tJ p.body))) := by unfold fmtP; rw [if_pos h]; simp
  constructor
  · rw [e0, (nameS_nrm kw_name.2.2.2.2).go, jn_nrm false _ h1, (Nrm.one (c := 59) (by decide) (by decide)).go, jn_end false _ h2, vJ_tL, hf]
    simp
  · unfold rawP
    exact ((Asc.app (Asc.app (fun c hc => by revert c; decide) (jn_asc _ h1)) (fun c hc => by revert c; decide))).app (jn_asc _ h2)
end Go.Proofs.YtiogceepjffmkaaGreatDoor.Gd
set_option maxRecDepth 100000
namespace Go.Proofs.YtiogceepjffmkaaGreatDoor.Gx
open Go.RowKit Go.Lib Go.Sort Com Mem Im Ag Pl
abbrev ET : TypeId := 58
abbrev PT : TypeId := 278
theorem wideP : WideK Tryz.prog PT := ⟨_, Tryz.underlying278, fun _ _ => rfl⟩
theorem check_place (A : Option Addr) (n : Nat) (w : World) (em : Bool) : (Instr.checkKey em 10000 PT (encP (A, n))).run Tryz.prog w = .ok () w := by kernel_rfl
theorem sizeE : ∃ i, Tryz.prog.info? ET = some i ∧ i.size ≠ 0 := by
  have h : (Tryz.prog.info? ET).map (fun i => i.size) = some 4 := by kernel_rfl
  obtain ⟨i, hi, e⟩ := Option.map_eq_some_iff.1 h
  exact ⟨i, hi, by rw [e]; decide⟩
theorem part_P (x y : Value) (w : World) : (part 276 #[x, y] 0).run Tryz.prog w = .ok x w := by kernel_rfl
theorem part_N (x y : Value) (w : World) : (part 3 #[x, y] 1).run Tryz.prog w = .ok y w := by kernel_rfl
theorem fields_P : ∃ f g, (Tryz.prog.fieldsOf PT).toList = [f, g] ∧ f.name ≠ "_" ∧ f.type = 276 ∧ f.offset = 0 ∧ g.name ≠ "_" ∧ g.type = 3 ∧ g.offset = 1 := ⟨_, _, rfl, by decide, rfl, rfl, by decide, rfl, rfl⟩
theorem eq_placeD (d : Nat) {w : World} {k k' : Pk} (h : PtOk w k.1) (h' : PtOk w k'.1) : (Op.equalIn (d + 2) PT (encP k) (encP k')).run Tryz.prog w = .ok (decide (k' = k)) w := by
  obtain ⟨i, hi, hz⟩ := sizeE
  have hp : Tryz.prog.underlying 276 = some (.pointer ET) := Tryz.underlying276
  have hn : Tryz.prog.underlying 3 = some (.int .i64) := Tryz.underlying3
  have he := ptr_eq hp hi hz d h h'
  have he2 := int_eqIn (w := w) hn d (k.2 : Int) (k'.2 : Int)
  have hpd := pair_dec k.1 k'.1 k.2 k'.2
  rw [run_equalIn_struct w (d + 1) PT _ _ (by kernel_rfl) (by kernel_rfl)]
  obtain ⟨f, g, e1, e2, e3, e4, e5, e6, e7⟩ := fields_P
  rw [e1]
  unfold Op.eqFields
  rw [if_pos e2, e3, e4]
  simp only [Sem.run_bind, part_P, Result.andThen_ok, he]
  unfold Op.eqFields
  rw [if_pos e5, e6, e7]
  cases hd : decide (k.1 = k'.1) with
  | false =>
    rw [hd, Bool.false_and] at hpd
    rw [← hpd]
    simp
  | true =>
    rw [hd, Bool.true_and] at hpd
    rw [← hpd]
    simp only [Bool.not_true, Bool.false_eq_true, if_false, Sem.run_bind, part_N, Result.andThen_ok, he2]
    unfold Op.eqFields
    cases ((k.2 : Int) == (k'.2 : Int)) <;> simp
theorem eq_place {w : World} {k k' : Pk} (h : PtOk w k.1) (h' : PtOk w k'.1) : (Op.equal PT (encP k) (encP k')).run Tryz.prog w = .ok (decide (k' = k)) w := eq_placeD 9998 h h'
theorem bits_P (k : Pk) : ∀ n, Instr.sameBits (n + 1) (encP k) (encP k) = true := fun n => by simp [Instr.sameBits]
theorem dec_place {w : World} {k : Pk} {l : List (Pk × Value)} (h : PtOk w k.1) (hl : ∀ p ∈ l, PtOk w p.1.1) : Dec Tryz.prog encP PT w k l :=
  ⟨fun w em => check_place k.1 k.2 w em, fun p hp => eq_place h (hl p hp), bits_P k 9999⟩
theorem placeOf_any (A : Option Addr) (l c : Nat) (hA : l ≠ 0 → ∃ ad, A = some ad) (w : World) : Calls Tryz.prog 210 #[.slice A l c] w fun e w' => e = .returned (encP (if l = 0 then none else A, l)) ∧ Below w.heap.size w w' := by
  by_cases hl : l = 0
  · subst hl
    rw [if_pos rfl]
    go_enter Tryz.func210, Tryz.ntmps210
    go_wp2_with fail
    refine bodyPost_ret (results_cell_row Tryz.results210 _ _ w.heap.size PT _ (0, 0) _ rfl (heap_alloc_new w _) Tryz.underlying278 rfl (by kernel_rfl)) rfl ⟨rfl, (Below.refl _ _).alloc (Nat.le_refl _) _⟩
  · rw [if_neg hl]
    obtain ⟨ad, rfl⟩ := hA hl
    have t0 : ((l : Int) == 0) = false := beq_false_of_ne (by omega)
    have t1 : (0 : Int) < (l : Int) := by omega
    go_enter Tryz.func210, Tryz.ntmps210
    go_wp2_with fail
    refine bodyPost_ret (results_cell_row Tryz.results210 _ _ w.heap.size PT _ (0, 0) _ rfl (heap_alloc_new w _) Tryz.underlying278 rfl (by kernel_rfl)) rfl ⟨rfl, (Below.refl _ _).alloc (Nat.le_refl _) _⟩
open Tr Kd
end Go.Proofs.YtiogceepjffmkaaGreatDoor.Gx
