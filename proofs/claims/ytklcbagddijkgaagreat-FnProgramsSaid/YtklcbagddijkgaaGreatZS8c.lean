/- The model's IsValidProgram: expressions, statements. -/
import Derived.Test.YtklcbagddijkgaaGreatZS8a
import Derived.Test.YtklcbagddijkgaaGreatZSt1
import Derived.Test.YtklcbagddijkgaaGreatZC3a
import Derived.Test.YtklcbagddijkgaaGreatZNm
set_option maxRecDepth 100000
namespace Go.Proofs.YtklcbagddijkgaaGreat.Gd
open Go.RowKit Go.Lib Go.Sort Go.Proofs.YtklcbagddijkgaaGreat.Com Go.Proofs.YtklcbagddijkgaaGreat.Mem Go.Proofs.YtklcbagddijkgaaGreat.Os Go.Proofs.YtklcbagddijkgaaGreat.Tr Go.Proofs.YtklcbagddijkgaaGreat.Nm Go.Proofs.YtklcbagddijkgaaGreat.C2

/-- the expression is valid, and only of these variables -/
def okE8 (V : List (List UInt8)) (e : T) : Bool := okT e && (((keepS (sortU (varsT e)) V).length : Int) == 0)
/-- a statement's kind, by its other fields -/
def kindB (V : List (List UInt8)) (k : Int) (s : List UInt8) (nb ne : Bool) : Bool :=
  if k = 1 then decide (0 ≤ ixOf V s) && (nb && ne) else if k = 2 then (s == []) else if k = 3 then (s == []) && ne else if k = 4 then (s == []) && (nb && ne) else false
mutual
def okSt (V : List (List UInt8)) : St → Bool
  | .mk k s e bs es => okE8 V e && (okSts V bs && (okSts V es && kindB V k s ((bs.length : Int) == 0) ((es.length : Int) == 0)))
def okSts (V : List (List UInt8)) : List St → Bool
  | [] => true
  | a :: r => okSt V a && okSts V r
end
theorem okSts_not {V : List (List UInt8)} {L : List St} {m : Nat} (h : m < L.length) (hf : okSt V L[m] = false) : okSts V L = false := by
  induction L generalizing m with
  | nil => simp at h
  | cons a r ih =>
    rw [okSts]
    cases m with
    | zero => rw [List.getElem_cons_zero] at hf; rw [hf]; rfl
    | succ m => rw [List.getElem_cons_succ] at hf; rw [ih (by simpa using h) hf, Bool.and_false]
theorem okSts_all {V : List (List UInt8)} {L : List St} (h : ∀ j, (hj : j < L.length) → okSt V L[j] = true) : okSts V L = true := by
  induction L with
  | nil => rfl
  | cons a r ih =>
    rw [okSts, show okSt V a = true from h 0 (by simp), Bool.true_and]
    exact ih fun j hj => h (j + 1) (by simpa using hj)
set_option maxHeartbeats 2000000 in
theorem sexpr8 (V : List (List UInt8)) (hV : V.length ≤ maxI) (e : T) (hc : cntT e ≤ 2000000) (v : Value) (A : Option Addr) (c : Nat) (w : World) (hv : Ex w w.heap.size v e) (hr : Rd w w.heap.size A (V.map sv)) :
    Calls Tryz.prog 69 #[v, .slice A V.length c] w fun e' w' => e' = .returned (.bool (okE8 V e)) ∧ Below w.heap.size w w' := by
  obtain ⟨k, n, s, B, l, cc, rfl⟩ := hv.form
  have hb1 := box_below w (.cells #[.int .i64 k, .int .i64 n, sv s, .slice B l cc] 48)
  have hblk := hid (box_blk w k n s B l cc 48)
  have hck := hid (svalidE e _ _ (hv.go hb1) hc)
  have hvs := hid (fun wx (hb : Below w.heap.size w wx) => svarsOf e _ wx (hv.go hb) hc)
  have hrr := hid (fun wx (hb : Below w.heap.size w wx) => (hr.below hb).more hb.size)
  have hln := hid (show (sortU (varsT e)).length ≤ 2000000 by have := sortU_len (varsT e); have := varsT_len e; omega)
  replace hb1 := hid hb1
  clear hv hr
  go_enter Tryz.func69, Tryz.ntmps69
  obtain ⟨k0, k1, k2, k3⟩ := four hblk.out
  go_wp2_with fail
  generalize (w.alloc (.cells #[.int .i64 k, .int .i64 n, sv s, .slice B l cc] 48)) = w1 at *
  refine hck.out.mono ?_
  rintro e2 w2 ⟨rfl, hb⟩
  have hb2 := hid (hb1.out.trans (hb.mono hb1.out.size))
  have hblk2 := hblk.out.below hb hblk.out.lt
  clear k0 k1 k2 k3
  obtain ⟨k0, k1, k2, k3⟩ := four hblk2
  cases hok : okT e with
  | false =>
    have hf := hid (show okE8 V e = false by unfold okE8; rw [hok]; rfl)
    clear hok hb hblk2
    go_wp2_with fail
    go_ret
    exact ⟨by rw [hf.out]; rfl, hb2.out⟩
  | true =>
    have hf := hid (show okE8 V e = (((keepS (sortU (varsT e)) V).length : Int) == 0) by unfold okE8; rw [hok]; rfl)
    clear hok hb hblk2
    generalize sortU (varsT e) = S at *
    go_wp2_with fail
    refine (hvs.out w2 hb2.out).mono ?_
    rintro e3 w3 ⟨r, rfl, ho, hb⟩
    have hb3 := hid (hb2.out.trans (hb.mono hb2.out.size))
    obtain ⟨SA, SC, rfl, hrs, _⟩ := ho.read_
    have hw := hid (swithout_any SA A SC c S V w3 hrs (hrr.out w3 hb3.out) hln.out hV)
    clear hb ho hrs hvs k0 k1 k2 k3
    go_wp2_with fail
    refine hw.out.mono ?_
    rintro e4 w4 ⟨u, rfl, hg⟩
    obtain ⟨UA, UC, hu, -, -, -, -⟩ := hg.len
    rw [List.length_map] at hu
    subst hu
    have hb4 := hid (hb3.out.trans (hg.2.mono hb3.out.size))
    clear hg hw
    generalize (keepS S V).length = q at *
    cases hq : ((q : Int) == 0) with
    | true =>
      rw [hq] at hf
      go_wp2_with fail
      go_ret
      exact ⟨by rw [hf.out]; rfl, hb4.out⟩
    | false =>
      rw [hq] at hf
      go_wp2_with fail
      go_ret
      exact ⟨by rw [hf.out]; rfl, hb4.out⟩
end Go.Proofs.YtklcbagddijkgaaGreat.Gd

/- The model's IsValidProgram: statements. -/
set_option maxRecDepth 100000
namespace Go.Proofs.YtklcbagddijkgaaGreat.Gd
open Go.RowKit Go.Lib Go.Sort Go.Proofs.YtklcbagddijkgaaGreat.Com Go.Proofs.YtklcbagddijkgaaGreat.Mem Go.Proofs.YtklcbagddijkgaaGreat.Os Go.Proofs.YtklcbagddijkgaaGreat.Tr Go.Proofs.YtklcbagddijkgaaGreat.Nm Go.Proofs.YtklcbagddijkgaaGreat.C2

mutual
/-- how many nodes its expressions have -/
def exSt : St → Nat
  | .mk _ _ e bs es => cntT e + exL bs + exL es
def exL : List St → Nat
  | [] => 0
  | a :: r => exSt a + exL r
end
theorem exSt_mk (k : Int) (s : List UInt8) (e : T) (bs es : List St) : exSt (.mk k s e bs es) = cntT e + exL bs + exL es := by rw [exSt]
theorem exSt_mem {L : List St} {a : St} (h : a ∈ L) : exSt a ≤ exL L := by
  induction L with
  | nil => cases h
  | cons b r ih =>
    simp only [exL]
    rcases List.mem_cons.1 h with rfl | h
    · omega
    · have := ih h; omega
theorem ex_szDL (L : List St) : exL L ≤ szDL (dl L) + L.length := by
  have hs : ∀ L : List St, (∀ a ∈ L, exSt a ≤ 1 + szDR a.d) → exL L ≤ L.length + szDL (dl L) := fun L hL => by
    induction L with
    | nil => simp [exL]
    | cons b r ih =>
      have := hL b (by simp)
      have := ih fun a ha => hL a (by simp [ha])
      simp only [exL, List.length_cons, dl, List.map_cons, szDL] at *
      omega
  have key : ∀ t : St, exSt t ≤ 1 + szDR t.d := fun t => by
    induction t using St.ind with
    | h k s e bs es h1 h2 =>
      have := hs bs h1
      have := hs es h2
      have := cnt_sz e
      rw [St.d_mk, szR_st, exSt_mk]
      simp only [dl, List.length_map] at *
      omega
  have := hs L fun a _ => key a
  omega
/-- what l8Stmt promises -/
def StV (V : List (List UInt8)) (t : St) : Prop := ∀ (cs : List Value) (A : Option Addr) (c : Nat) (w : World), Rd8 w w.heap.size cs t.d → Rd w w.heap.size A (V.map sv) → exSt t ≤ 1900000 →
  Calls Tryz.prog 49 #[.agg cs.toArray, .slice A V.length c] w fun e w' => e = .returned (.bool (okSt V t)) ∧ Below w.heap.size w w'
set_option maxHeartbeats 2000000 in
theorem sstmts (V : List (List UInt8)) (L : List St) (ih : ∀ a ∈ L, StV V a) (A : Option Addr) (c : Nat) (rows : Nat → List Value) (w : World) (hk : Row w w.heap.size 1 A (dl L) rows) (hl : L.length ≤ maxI) (hsz : exL L ≤ 1900000) (B : Option Addr) (cv : Nat) (hr : Rd w w.heap.size B (V.map sv)) :
    Calls Tryz.prog 25 #[.slice A L.length c, .slice B V.length cv] w fun e w' => e = .returned (.bool (okSts V L)) ∧ Below w.heap.size w w' := by
  have hl63 : L.length ≤ 9223372036854775807 := hl
  generalize hL : L.length = n at *
  go_enter Tryz.func25, Tryz.ntmps25
  go_wp2_with fail
  go_loopw [5] (fun i wr => ∃ m : Nat, m ≤ n ∧ i = .int .i64 m ∧ (∀ j, (hj : j < L.length) → j < m → okSt V L[j] = true) ∧ Below w.heap.size w wr) (fun i _ => n - (Go.RowKit.intOf i).toNat)
  case atStart => exact ⟨0, Nat.zero_le _, rfl, fun j _ h => absurd h (Nat.not_lt_zero _), Below.refl _ _⟩
  case round =>
    obtain ⟨m, hm, rfl, hall, hb⟩ := hrel
    by_cases hlt : m < n
    · have hml : m < L.length := by omega
      have hkr := hk.go hb
      have hrr := (hr.below hb).more hb.size
      obtain ⟨ad, k, s, e, bs, es, ek, en, en', A1, l1, c1, Bb, cb, C, cc, rb, rc, hA, _, hT, hld, _, _, _, _, _, _⟩ := hkr.st (m := m) hml
      have hkid := hkr.kid m L[m].d (by simp [hml])
      have hld0 := (hkr.cell m (by simpa using hml))
      obtain ⟨hlen, ad', hA', _, hld'⟩ := hld0
      rw [hA] at hA'
      cases hA'
      have hsm : exSt L[m] ≤ 1900000 := Nat.le_trans (exSt_mem (List.getElem_mem hml)) hsz
      have hck := ih L[m] (List.getElem_mem hml) _ B cv wr hkid hrr hsm
      /- the row's cells, written out -/
      have hkd := hkid
      rw [hT, St.d_mk] at hkd
      obtain ⟨fk, fn, fn', A2, l2, c2, B2, cb2, C2, cc2, rb2, rc2, e8, -, -, -, -, -, -⟩ := st_inv hkd
      rw [dl_len bs, dl_len es] at e8
      have hld2 : LdN wr (ad.add (m * 8)) (rows m) := hld'
      rw [e8] at hld2 hck
      obtain ⟨k0, k1, k2, k3, k4, k5, k6, k7⟩ := ld8 hld2
      subst hA
      replace hb := hid hb
      replace hall := hid hall
      cases hq : okSt V L[m] with
      | true =>
        rw [hq] at hck
        have hnx := hid (show ∀ j, (hj : j < L.length) → j < m + 1 → okSt V L[j] = true from fun j hj h2 => by
          by_cases e : j = m
          · subst e; exact hq
          · exact hall.out j hj (by omega))
        replace hck := hid hck
        clear hq hkr hrr hT hld hkid hkd e8 hld' hld2 hlen
        go_wp2_with fail
        refine hck.out.mono ?_
        rintro e2 w2 ⟨rfl, hb2⟩
        have hb2 := hid (hb.out.trans (hb2.mono hb.out.size))
        go_wp2_with fail
        exact ⟨⟨m + 1, hlt, by go_num, hnx.out, hb2.out⟩, by simp [Go.RowKit.intOf]; omega⟩
      | false =>
        rw [hq] at hck
        have hf := hid (okSts_not hml hq)
        replace hck := hid hck
        clear hq hkr hrr hT hld hkid hkd e8 hld' hld2 hlen
        go_wp2_with fail
        refine hck.out.mono ?_
        rintro e2 w2 ⟨rfl, hb2⟩
        have hb2 := hid (hb.out.trans (hb2.mono hb.out.size))
        go_wp2_with fail
        go_ret
        exact ⟨by rw [hf.out]; rfl, hb2.out⟩
    · obtain rfl : m = n := by omega
      have hf := hid (okSts_all (V := V) (L := L) fun j hj => hall j hj (by omega))
      clear hall
      go_wp2_with fail
      go_ret
      exact ⟨by rw [hf.out]; rfl, hb⟩
theorem okSt_mk (V : List (List UInt8)) (k : Int) (s : List UInt8) (e : T) (bs es : List St) : okSt V (.mk k s e bs es) = (okE8 V e && (okSts V bs && (okSts V es && kindB V k s ((bs.length : Int) == 0) ((es.length : Int) == 0)))) := by rw [okSt]
set_option maxHeartbeats 8000000 in
theorem sstmt (V : List (List UInt8)) (hV : V.length ≤ maxI) (t : St) : StV V t := by
  induction t using St.ind with
  | h k s e bs es ih1 ih2 =>
    intro cs A c w hv hr hsz
    rw [St.d_mk] at hv
    rw [exSt_mk] at hsz
    obtain ⟨ek, en, en', B, l, cc, Bb, cb, C, ce, rb, rc, rfl, hs, hx, hrb, hlb, hrc, hlc⟩ := st_inv hv
    rw [dl_len] at *
    rw [dl_len] at *
    have hce := cnt_sz e
    have b1 : Below w.heap.size w (w.alloc (.cells (sc k s ek en en' B l cc Bb bs.length cb C es.length ce).toArray SI)) := box8
    have bx := hid (Blk.new w SI (sc k s ek en en' B l cc Bb bs.length cb C es.length ce))
    have cE := hid (fun wx (hb : Below w.heap.size w wx) => sexpr8 V hV e (by omega) _ A c wx (hx.go hb) ((hr.below hb).more hb.size))
    have cB := hid (fun wx (hb : Below w.heap.size w wx) => sstmts V bs ih1 Bb cb rb wx (hrb.go hb) hlb (by omega) A c ((hr.below hb).more hb.size))
    have cC := hid (fun wx (hb : Below w.heap.size w wx) => sstmts V es ih2 C ce rc wx (hrc.go hb) hlc (by omega) A c ((hr.below hb).more hb.size))
    have cI := hid (fun wx (hb : Below w.heap.size w wx) => sindex_any A c V s wx w.heap.size (hr.below hb) hV)
    replace b1 := hid b1
    have hok := hid (okSt_mk V k s e bs es)
    generalize okSt V (.mk k s e bs es) = Q at *
    generalize okE8 V e = qe at *
    generalize okSts V bs = qb at *
    generalize okSts V es = qc at *
    clear hv hx hrb hrc hlb hlc hr hsz ih1 ih2 hce
    go_enter Tryz.func49, Tryz.ntmps49
    obtain ⟨k0, k1, k2, k3, k4, k5, k6, k7⟩ := eight bx.out
    go_wp2_with fail
    generalize (w.alloc (.cells #[.int .i64 k, sv s, .int .i64 ek, .int .i64 en, sv en', .slice B l cc, .slice Bb bs.length cb, .slice C es.length ce] 50)) = w1 at *
    refine (cE.out w1 b1.out).mono ?_
    rintro e2 w2 ⟨rfl, hb⟩
    have b2 := hid (b1.out.trans (hb.mono b1.out.size))
    have bx2 := hid (bx.out.below hb bx.out.lt)
    clear hb k0 k1 k2 k3 k4 k5 k6 k7 bx b1 cE
    obtain ⟨k0, k1, k2, k3, k4, k5, k6, k7⟩ := eight bx2.out
    cases qe with
    | false =>
      go_wp2_with fail
      go_ret
      exact ⟨by rw [hok.out]; rfl, b2.out⟩
    | true =>
    go_wp2_with fail
    refine (cB.out w2 b2.out).mono ?_
    rintro e3 w3 ⟨rfl, hb⟩
    have b3 := hid (b2.out.trans (hb.mono b2.out.size))
    have bx3 := hid (bx2.out.below hb bx2.out.lt)
    clear hb k0 k1 k2 k3 k4 k5 k6 k7 bx2 b2 cB
    obtain ⟨k0, k1, k2, k3, k4, k5, k6, k7⟩ := eight bx3.out
    cases qb with
    | false =>
      go_wp2_with fail
      go_ret
      exact ⟨by rw [hok.out]; rfl, b3.out⟩
    | true =>
    go_wp2_with fail
    refine (cC.out w3 b3.out).mono ?_
    rintro e4 w4 ⟨rfl, hb⟩
    have b4 := hid (b3.out.trans (hb.mono b3.out.size))
    have bx4 := hid (bx3.out.below hb bx3.out.lt)
    clear hb k0 k1 k2 k3 k4 k5 k6 k7 bx3 b3 cC
    obtain ⟨k0, k1, k2, k3, k4, k5, k6, k7⟩ := eight bx4.out
    cases qc with
    | false =>
      go_wp2_with fail
      go_ret
      exact ⟨by rw [hok.out]; rfl, b4.out⟩
    | true =>
    by_cases h1 : k = 1
    · subst h1
      have hf := hid (show Q = (decide (0 ≤ ixOf V s) && (((bs.length : Int) == 0) && ((es.length : Int) == 0))) from hok.out)
      have cI4 := hid (cI.out w4 b4.out)
      clear hok cI
      generalize ixOf V s = ix at *
      go_wp2_with fail
      refine cI4.out.mono ?_
      rintro e5 w5 ⟨rfl, rfl⟩
      cases hi : decide (0 ≤ ix) with
      | false =>
        rw [hi] at hf
        go_wp2_with fail
        go_ret
        exact ⟨by rw [hf.out]; rfl, b4.out⟩
      | true =>
      rw [hi] at hf
      cases hz1 : ((bs.length : Int) == 0) with
      | false =>
        rw [hz1] at hf
        go_wp2_with fail
        go_ret
        exact ⟨by rw [hf.out]; rfl, b4.out⟩
      | true =>
      rw [hz1] at hf
      cases hz2 : ((es.length : Int) == 0) with
      | false =>
        rw [hz2] at hf
        go_wp2_with fail
        go_ret
        exact ⟨by rw [hf.out]; rfl, b4.out⟩
      | true =>
        rw [hz2] at hf
        go_wp2_with fail
        go_ret
        exact ⟨by rw [hf.out]; rfl, b4.out⟩
    clear cI
    by_cases h2 : k = 2
    · subst h2
      have hf := hid (show Q = (s == []) from hok.out)
      clear hok
      cases hz : (s == []) with
      | false =>
        rw [hz] at hf
        go_wp2_with fail
        go_ret
        exact ⟨by rw [hf.out]; rfl, b4.out⟩
      | true =>
        rw [hz] at hf
        go_wp2_with fail
        go_ret
        exact ⟨by rw [hf.out]; rfl, b4.out⟩
    by_cases h3 : k = 3
    · subst h3
      have hf := hid (show Q = ((s == []) && ((es.length : Int) == 0)) from hok.out)
      clear hok
      cases hz : (s == []) with
      | false =>
        rw [hz] at hf
        go_wp2_with fail
        go_ret
        exact ⟨by rw [hf.out]; rfl, b4.out⟩
      | true =>
      rw [hz] at hf
      cases hz2 : ((es.length : Int) == 0) with
      | false =>
        rw [hz2] at hf
        go_wp2_with fail
        go_ret
        exact ⟨by rw [hf.out]; rfl, b4.out⟩
      | true =>
        rw [hz2] at hf
        go_wp2_with fail
        go_ret
        exact ⟨by rw [hf.out]; rfl, b4.out⟩
    by_cases h4 : k = 4
    · subst h4
      have hf := hid (show Q = ((s == []) && (((bs.length : Int) == 0) && ((es.length : Int) == 0))) from hok.out)
      clear hok
      cases hz : (s == []) with
      | false =>
        rw [hz] at hf
        go_wp2_with fail
        go_ret
        exact ⟨by rw [hf.out]; rfl, b4.out⟩
      | true =>
      rw [hz] at hf
      cases hz1 : ((bs.length : Int) == 0) with
      | false =>
        rw [hz1] at hf
        go_wp2_with fail
        go_ret
        exact ⟨by rw [hf.out]; rfl, b4.out⟩
      | true =>
      rw [hz1] at hf
      cases hz2 : ((es.length : Int) == 0) with
      | false =>
        rw [hz2] at hf
        go_wp2_with fail
        go_ret
        exact ⟨by rw [hf.out]; rfl, b4.out⟩
      | true =>
        rw [hz2] at hf
        go_wp2_with fail
        go_ret
        exact ⟨by rw [hf.out]; rfl, b4.out⟩
    have hf := hid (show Q = false by rw [hok.out]; unfold kindB; rw [if_neg h1, if_neg h2, if_neg h3, if_neg h4]; rfl)
    have t1 : (k == 1) = false := beq_false_of_ne h1
    have t2 : (k == 2) = false := beq_false_of_ne h2
    have t3 : (k == 3) = false := beq_false_of_ne h3
    have t4 : (k == 4) = false := beq_false_of_ne h4
    clear hok h1 h2 h3 h4
    go_wp2_with fail
    go_ret
    exact ⟨by rw [hf.out]; rfl, b4.out⟩
end Go.Proofs.YtklcbagddijkgaaGreat.Gd

/- The model's IsValidProgram. -/
set_option maxRecDepth 100000
namespace Go.Proofs.YtklcbagddijkgaaGreat.Gd
open Go.RowKit Go.Lib Go.Sort Go.Proofs.YtklcbagddijkgaaGreat.Com Go.Proofs.YtklcbagddijkgaaGreat.Mem Go.Proofs.YtklcbagddijkgaaGreat.Os Go.Proofs.YtklcbagddijkgaaGreat.Tr Go.Proofs.YtklcbagddijkgaaGreat.Nm Go.Proofs.YtklcbagddijkgaaGreat.C2

/-- the variables: valid names, at most two, all different -/
def varsB (V : List (List UInt8)) : Bool := V.all validB && (decide (V.length ≤ 2) && distB V)
/-- IsValidProgram -/
def okP (p : Pg) : Bool := varsB p.vs && (decide (cntL p.body ≤ 8) && (decide (depL p.body ≤ 3) && okSts p.vs p.body))
set_option maxHeartbeats 2000000 in
theorem svars8 (V : List (List UInt8)) (hs : ∀ x ∈ V, x.length ≤ maxI) (hV : V.length ≤ maxI) (A : Option Addr) (c : Nat) (hcap : V.length ≤ c) (w : World) (hr : Rd w w.heap.size A (V.map sv)) :
    Calls Tryz.prog 23 #[.slice A V.length c] w fun e w' => e = .returned (.bool (varsB V)) ∧ Below w.heap.size w w' := by
  have hV63 : V.length ≤ 9223372036854775807 := hV
  have cD := hid (fun wx (hb : Below w.heap.size w wx) => sdistinct_any A c V wx ((hr.below hb).more hb.size) hcap hV63)
  generalize hL : V.length = n at *
  go_enter Tryz.func23, Tryz.ntmps23
  go_wp2_with fail
  go_loopw [3] (fun i wr => ∃ m : Nat, m ≤ n ∧ i = .int .i64 m ∧ (∀ j, (hj : j < V.length) → j < m → validB V[j] = true) ∧ Below w.heap.size w wr) (fun i _ => n - (Go.RowKit.intOf i).toNat)
  case atStart => exact ⟨0, Nat.zero_le _, rfl, fun j _ h => absurd h (Nat.not_lt_zero _), Below.refl _ _⟩
  case round =>
    obtain ⟨m, hm, rfl, hall, hb⟩ := hrel
    by_cases hlt : m < n
    · have hml : m < V.length := by omega
      obtain ⟨ad, rfl, _, hcm⟩ := Lh.rd_str (hr.below hb) hml
      have hck := svalid_any V[m] wr (hs _ (List.getElem_mem hml))
      replace hall := hid hall
      replace hb := hid hb
      cases hq : validB V[m] with
      | true =>
        rw [hq] at hck
        have hnx := hid (show ∀ j, (hj : j < V.length) → j < m + 1 → validB V[j] = true from fun j hj h2 => by
          by_cases e : j = m
          · subst e; exact hq
          · exact hall.out j hj (by omega))
        replace hck := hid hck
        clear hq
        generalize V[m] = x at *
        go_wp2_with fail
        refine hck.out.mono ?_
        rintro e2 w2 ⟨rfl, hb2⟩
        have hb2 := hid (hb.out.trans (hb2.mono hb.out.size))
        go_wp2_with fail
        exact ⟨⟨m + 1, hlt, by go_num, hnx.out, hb2.out⟩, by simp [Go.RowKit.intOf]; omega⟩
      | false =>
        rw [hq] at hck
        have hf := hid (show varsB V = false by
          unfold varsB
          have : V.all validB = false := by
            rw [List.all_eq_false]
            exact ⟨V[m], List.getElem_mem hml, by rw [hq]; simp⟩
          rw [this]; rfl)
        replace hck := hid hck
        clear hq
        generalize V[m] = x at *
        go_wp2_with fail
        refine hck.out.mono ?_
        rintro e2 w2 ⟨rfl, hb2⟩
        have hb2 := hid (hb.out.trans (hb2.mono hb.out.size))
        go_wp2_with fail
        go_ret
        exact ⟨by rw [hf.out]; rfl, hb2.out⟩
    · obtain rfl : m = n := by omega
      have hva : V.all validB = true := by
        rw [List.all_eq_true]
        intro x hx
        obtain ⟨j, hj, e⟩ := List.getElem_of_mem hx
        rw [← e]; exact hall j hj (by omega)
      have hcl := hid (cD.out wr hb)
      replace hb := hid hb
      clear hall cD
      by_cases h2 : m ≤ 2
      · have t1 : decide ((m : Int) ≤ 2) = true := decide_eq_true (by omega)
        have hf := hid (show varsB V = distB V by unfold varsB; rw [hva, decide_eq_true (show V.length ≤ 2 by omega)]; rfl)
        clear hva
        go_wp2_with fail
        refine hcl.out.mono ?_
        rintro e2 w2 ⟨rfl, hb2⟩
        have hb2 := hid (hb.out.trans (hb2.mono hb.out.size))
        go_wp2_with fail
        go_ret
        exact ⟨by rw [hf.out]; rfl, hb2.out⟩
      · have t1 : decide ((m : Int) ≤ 2) = false := decide_eq_false (by omega)
        have hf := hid (show varsB V = false by unfold varsB; rw [hva, decide_eq_false (show ¬ V.length ≤ 2 by omega)]; rfl)
        clear hva hcl
        go_wp2_with fail
        go_ret
        exact ⟨by rw [hf.out]; rfl, hb.out⟩
set_option maxHeartbeats 4000000 in
theorem svalidP (p : Pg) (hsz : exL p.body ≤ 1900000) (hcn : cntL p.body ≤ 1900000) (cs : List Value) (w : World) (hv : Rd8 w w.heap.size cs p.d) :
    Calls Tryz.prog 7 #[.agg cs.toArray] w fun e w' => e = .returned (.bool (okP p)) ∧ Below w.heap.size w w' := by
  obtain ⟨A, c, Bb, cb, rows, rfl, hr, hs, hl, hk, hlb⟩ := pg_inv hv
  obtain ⟨V, P⟩ := p
  dsimp only at hr hs hl hk hlb hsz hcn ⊢
  have b1 : Below w.heap.size w (w.alloc (.cells (pc A V.length c Bb P.length cb).toArray 27)) := box8
  have bx := hid (Blk.new w 27 (pc A V.length c Bb P.length cb))
  have cV := hid (svars8 V hs hl.1 A c hl.2 _ ((hr.below b1).more b1.size))
  have cL := hid (fun wx (hb : Below w.heap.size w wx) => sleftS _ P rfl Bb cb rows 8 wx (hk.go hb) hlb (by omega) (by omega))
  have cD := hid (fun wx (hb : Below w.heap.size w wx) => sdepS _ P rfl (by omega) Bb cb rows wx (hk.go hb))
  have cS := hid (fun wx (hb : Below w.heap.size w wx) => sstmts V P (fun a _ => sstmt V hl.1 a) Bb cb rows wx (hk.go hb) hlb hsz A c ((hr.below hb).more hb.size))
  have hok := hid (show okP ⟨V, P⟩ = (varsB V && (decide (cntL P ≤ 8) && (decide (depL P ≤ 3) && okSts V P))) from rfl)
  replace b1 := hid b1
  have hl8 := szAns_low (cntL P) (l := 8) (by omega) (by omega)
  have hq8 : decide (0 ≤ szAns (cntL P) 8) = decide (cntL P ≤ 8) := by
    unfold szAns
    by_cases h : ((cntL P : Nat) : Int) ≤ 8
    · rw [if_pos h, decide_eq_true (show 0 ≤ 8 - ((cntL P : Nat) : Int) by omega), decide_eq_true (show cntL P ≤ 8 by omega)]
    · rw [if_neg h, decide_eq_false (show ¬ (0 : Int) ≤ -1 by omega), decide_eq_false (show ¬ cntL P ≤ 8 by omega)]
  generalize szAns (cntL P) 8 = z8 at *
  generalize okP ⟨V, P⟩ = Q at *
  generalize varsB V = q1 at *
  generalize decide (cntL P ≤ 8) = q2 at *
  generalize okSts V P = q4 at *
  have hd3 : decide ((depL P : Int) ≤ 3) = decide (depL P ≤ 3) := decide_eq_decide.2 (by omega)
  generalize depL P = dp at *
  generalize decide (dp ≤ 3) = q3 at *
  clear hv hr hk hs hl hlb hsz hcn hl8
  go_enter Tryz.func7, Tryz.ntmps7
  obtain ⟨k0, k1⟩ := two bx.out
  go_wp2_with fail
  refine cV.out.mono ?_
  rintro e2 w2 ⟨rfl, hb⟩
  have b2 := hid (b1.out.trans (hb.mono b1.out.size))
  have bx2 := hid (bx.out.below hb bx.out.lt)
  clear hb k0 k1 bx b1 cV
  obtain ⟨k0, k1⟩ := two bx2.out
  cases q1 with
  | false =>
    go_wp2_with fail
    go_ret
    exact ⟨by rw [hok.out]; rfl, b2.out⟩
  | true =>
  go_wp2_with fail
  refine (cL.out w2 b2.out).mono ?_
  rintro e3 w3 ⟨rfl, hb⟩
  have b3 := hid (b2.out.trans (hb.mono b2.out.size))
  have bx3 := hid (bx2.out.below hb bx2.out.lt)
  clear hb k0 k1 bx2 b2 cL
  obtain ⟨k0, k1⟩ := two bx3.out
  cases q2 with
  | false =>
    go_wp2_with fail
    go_ret
    exact ⟨by rw [hok.out]; rfl, b3.out⟩
  | true =>
  go_wp2_with fail
  refine (cD.out w3 b3.out).mono ?_
  rintro e4 w4 ⟨rfl, hb⟩
  have b4 := hid (b3.out.trans (hb.mono b3.out.size))
  have bx4 := hid (bx3.out.below hb bx3.out.lt)
  clear hb k0 k1 bx3 b3 cD
  obtain ⟨k0, k1⟩ := two bx4.out
  cases q3 with
  | false =>
    go_wp2_with fail
    go_ret
    exact ⟨by rw [hok.out]; rfl, b4.out⟩
  | true =>
  go_wp2_with fail
  refine (cS.out w4 b4.out).mono ?_
  rintro e5 w5 ⟨rfl, hb⟩
  have b5 := hid (b4.out.trans (hb.mono b4.out.size))
  clear hb k0 k1 bx4 b4 cS
  go_wp2_with fail
  go_ret
  exact ⟨by rw [hok.out]; rfl, b5.out⟩
end Go.Proofs.YtklcbagddijkgaaGreat.Gd
