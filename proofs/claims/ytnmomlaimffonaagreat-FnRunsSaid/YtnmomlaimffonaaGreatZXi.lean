/- The program's validity of programs. -/
import Derived.Test.YtnmomlaimffonaaGreatZXo
set_option maxHeartbeats 8000000
set_option maxRecDepth 100000
namespace Go.Proofs.YtnmomlaimffonaaGreat.Sr
open Go.RowKit Go.Lib Go.Sort Com Mem YtnmomlaimffonaaGreat.Os Tr Pl Gd YtnmomlaimffonaaGreat.Nm C2
theorem vars_len {W : World} {B : Nat} {v : Value} {t : T} (h : Ex W B v t) : ∀ x ∈ varsT t, x.length ≤ 9223372036854775807 := by
  induction h with
  | @mk k n s ks A c vs hs ha hcell hk ih =>
    intro x hx
    rw [varsT_mk, List.mem_append] at hx
    rcases hx with hx | hx
    · split at hx
      · rw [List.mem_singleton] at hx; subst hx; exact hs
      · cases hx
    · unfold varsK at hx
      obtain ⟨l, hl, hx⟩ := List.mem_flatten.1 hx
      obtain ⟨a, ha, rfl⟩ := List.mem_map.1 hl
      obtain ⟨j, hj⟩ := List.getElem?_of_mem ha
      exact ih j a hj x hx
theorem iexpr8 (V : List (List UInt8)) (hV : V.length ≤ maxI) (hVs : ∀ x ∈ V, x.length ≤ maxI) (e : T) (hc : cntT e ≤ 1048576) (v : Value) (A : Option Addr) (c : Nat) (w : World) (hv : Ex (pln w) w.heap.size v e) (hr : Rd w w.heap.size A (V.map sv)) :
    Calls Tryz.prog 104 #[.slice A V.length c, v] w fun e' w' => e' = .returned (.bool (okE8 V e)) ∧ Below w.heap.size w w' := by
  obtain ⟨k, n, s, B, l, cc, rfl⟩ := ex_form hv
  have hb1 := box_below w (.cells #[.int .i64 k, .int .i64 n, sv s, .slice B l cc] 92)
  have hblk := hid (box_blk w k n s B l cc 92)
  have hck := hid (ivalidE e _ _ (ex_out (ex_go hv hb1)))
  have hvs := hid (fun wx (hb : Below w.heap.size w wx) => Gx.ivarsE e _ wx (ex_go hv hb) (by omega))
  have hrr := hid (fun wx (hb : Below w.heap.size w wx) => (hr.below hb).more hb.size)
  have hln := hid (show (sortU (varsT e)).length ≤ 1048576 by have := sortU_len (varsT e); have := varsT_len e; omega)
  have hls := hid (fun x (hx : x ∈ sortU (varsT e)) => vars_len hv x (mem_sortU.1 hx))
  replace hb1 := hid hb1
  clear hv hr
  obtain ⟨k0, k1, k2, k3⟩ := four hblk.out
  go_enter Tryz.func104, Tryz.ntmps104
  go_wp2_with fail
  generalize (w.alloc (.cells #[.int .i64 k, .int .i64 n, sv s, .slice B l cc] 92)) = w1 at *
  refine hck.out.mono ?_
  rintro e2 w2 ⟨rfl, hb⟩
  have hb2 := hid (hb1.out.trans (hb.mono hb1.out.size))
  have hblk2 := hblk.out.below hb hblk.out.lt
  clear k0 k1 k2 k3
  obtain ⟨k0, k1, k2, k3⟩ := four hblk2
  cases hok : okT e with
  | false =>
    have hf := hid (show okE8 V e = false by unfold okE8; rw [hok]; rfl)
    clear hok hb hblk2
    go_wp2_with fail
    go_ret
    exact ⟨by rw [hf.out]; rfl, hb2.out⟩
  | true =>
    have hf := hid (show okE8 V e = (((keepS (sortU (varsT e)) V).length : Int) == 0) by unfold okE8; rw [hok]; rfl)
    clear hok hb hblk2
    generalize sortU (varsT e) = S at *
    go_wp2_with fail
    refine (hvs.out w2 hb2.out).mono ?_
    rintro e3 w3 ⟨r, rfl, ho, hb⟩
    have hb3 := hid (hb2.out.trans (hb.mono hb2.out.size))
    obtain ⟨SA, SC, rfl, hrs, _⟩ := ho.read_
    have hw := hid (without_any SA A SC c S V w3 hrs (hrr.out w3 hb3.out) hls.out hVs hln.out hV)
    clear hb ho hrs hvs k0 k1 k2 k3
    go_wp2_with fail
    refine hw.out.mono ?_
    rintro e4 w4 ⟨u, rfl, hg⟩
    obtain ⟨UA, UC, hu, -, -, -, -⟩ := hg.len
    rw [List.length_map] at hu
    subst hu
    have hb4 := hid (hb3.out.trans (hg.2.mono hb3.out.size))
    clear hg hw
    generalize (keepS S V).length = q at *
    cases hq : ((q : Int) == 0) with
    | true =>
      rw [hq] at hf
      go_wp2_with fail
      go_ret
      exact ⟨by rw [hf.out]; rfl, hb4.out⟩
    | false =>
      rw [hq] at hf
      go_wp2_with fail
      go_ret
      exact ⟨by rw [hf.out]; rfl, hb4.out⟩
abbrev zA : Value := .agg #[.int .i64 0, .int .i64 0, .string ⟨#[]⟩, .slice none 0 0, .string ⟨#[]⟩]
abbrev zC : Value := .agg #[.int .i64 0, .int .i64 0, .string ⟨#[]⟩, .slice none 0 0, .slice none 0 0, .slice none 0 0]
abbrev zL : Value := .agg #[.int .i64 0, .int .i64 0, .string ⟨#[]⟩, .slice none 0 0, .slice none 0 0]
theorem sa_aa (V : Value) (w : World) : (Instr.typeAssert (.iface 150 V) 118 150 true).run Tryz.prog w = .ok (.tuple #[V, .bool true]) w := by kernel_rfl
theorem sa_ca (V : Value) (w : World) : (Instr.typeAssert (.iface 152 V) 118 150 true).run Tryz.prog w = .ok (.tuple #[zA, .bool false]) w := by kernel_rfl
theorem sa_cc (V : Value) (w : World) : (Instr.typeAssert (.iface 152 V) 118 152 true).run Tryz.prog w = .ok (.tuple #[V, .bool true]) w := by kernel_rfl
theorem sa_la (V : Value) (w : World) : (Instr.typeAssert (.iface 154 V) 118 150 true).run Tryz.prog w = .ok (.tuple #[zA, .bool false]) w := by kernel_rfl
theorem sa_lc (V : Value) (w : World) : (Instr.typeAssert (.iface 154 V) 118 152 true).run Tryz.prog w = .ok (.tuple #[zC, .bool false]) w := by kernel_rfl
theorem sa_ll (V : Value) (w : World) : (Instr.typeAssert (.iface 154 V) 118 154 true).run Tryz.prog w = .ok (.tuple #[V, .bool true]) w := by kernel_rfl
theorem sa_ea (V : Value) (w : World) : (Instr.typeAssert (.iface 156 V) 118 150 true).run Tryz.prog w = .ok (.tuple #[zA, .bool false]) w := by kernel_rfl
theorem sa_ec (V : Value) (w : World) : (Instr.typeAssert (.iface 156 V) 118 152 true).run Tryz.prog w = .ok (.tuple #[zC, .bool false]) w := by kernel_rfl
theorem sa_el (V : Value) (w : World) : (Instr.typeAssert (.iface 156 V) 118 154 true).run Tryz.prog w = .ok (.tuple #[zL, .bool false]) w := by kernel_rfl
theorem sa_ee (V : Value) (w : World) : (Instr.typeAssert (.iface 156 V) 118 156 true).run Tryz.prog w = .ok (.tuple #[V, .bool true]) w := by kernel_rfl
def OvS (V : List (List UInt8)) (t : St) : Prop := ∀ (A : Option Addr) (c : Nat) (X : Value) (w : World), StR (pln w) w.heap.size X t → Rd w w.heap.size A (V.map sv) → (∀ ad, A = some ad → ad = ⟨ad.block, 0, none⟩) → exSt t ≤ 1048576 →
  Calls Tryz.prog 84 #[.slice A V.length c, X] w fun e w' => e = .returned (.bool (okSt V t)) ∧ Below w.heap.size w w'
theorem istmts8 (V : List (List UInt8)) (L : List St) (ih : ∀ a ∈ L, OvS V a) (A : Option Addr) (c : Nat) (B : Option Addr) (cb : Nat) (rows : Nat → Value) (w : World) (hk : RowR (pln w) w.heap.size B L rows) (hl : L.length ≤ maxI) (hsz : exL L ≤ 1048576)
    (hr : Rd w w.heap.size A (V.map sv)) (hA : ∀ ad, A = some ad → ad = ⟨ad.block, 0, none⟩) :
    Calls Tryz.prog 60 #[.slice A V.length c, .slice B L.length cb] w fun e w' => e = .returned (.bool (okSts V L)) ∧ Below w.heap.size w w' := by
  have hl63 : L.length ≤ 9223372036854775807 := hl
  generalize hL : L.length = n at *
  replace hA := hid hA
  replace hr := hid hr
  go_enter Tryz.func60, Tryz.ntmps60
  go_wp2_with fail
  go_loopw [9] (fun i wr => ∃ m : Nat, i = .int .i64 (m : Nat) ∧ m ≤ n ∧ Below w.heap.size w wr ∧ (∀ j, (hj : j < L.length) → j < m → okSt V L[j] = true)) (fun i _ => n - (Go.RowKit.intOf i).toNat)
  case atStart => exact ⟨0, rfl, Nat.zero_le _, Below.refl _ _, fun j hj h => absurd h (Nat.not_lt_zero _)⟩
  case round =>
    obtain ⟨m, rfl, hm, hb, hall⟩ := hrel
    replace hall := hid hall
    by_cases hlt : m < n
    · have t0 : decide ((m : Int) < (n : Int)) = true := decide_eq_true (by omega)
      have t1 : (m : Int) < (n : Int) := by omega
      have hml : m < L.length := by omega
      obtain ⟨ad, rfl, hBd, hcell⟩ := hk.cell m hml
      have hkr := hk.kid m L[m] (List.getElem?_eq_getElem hml)
      have hc2 : wr.cell? (ad.add m) = some (rows m) := by
        rw [hb.cell (by rw [add_block]; exact hBd)]; exact (pln_cell hcell).1
      have hck := hid (ih _ (List.getElem_mem hml) A c _ wr (hkr.go hb) ((hr.out.below hb).more hb.size) hA.out (Nat.le_trans (exSt_mem (List.getElem_mem hml)) hsz))
      have hno := hid (fun (h : okSt V L[m] = false) => okSts_not hml h)
      have hnx := hid (fun (h : okSt V L[m] = true) (j : Nat) (hj : j < L.length) (hjm : j < m + 1) => show okSt V L[j] = true by
        by_cases e : j = m
        · subst e; exact h
        · exact hall.out j hj (by omega))
      obtain ⟨tX, yX, eX⟩ := hkr.form
      rw [eX] at hc2 hck
      replace hb := hid hb
      clear hcell hkr eX
      generalize okSt V L[m] = ok at *
      cases ok with
      | false =>
        have hf := hid (hno.out rfl)
        clear hno hnx
        go_wp2_with fail
        refine hck.out.mono ?_
        rintro e2 w2 ⟨rfl, hb2⟩
        have hb3 := hid (hb.out.trans (hb2.mono hb.out.size))
        clear hb2 hck
        go_wp2_with fail
        go_ret
        exact ⟨by rw [hf.out]; rfl, hb3.out⟩
      | true =>
        have hnx2 := hid (hnx.out rfl)
        clear hno hnx
        go_wp2_with fail
        refine hck.out.mono ?_
        rintro e2 w2 ⟨rfl, hb2⟩
        have hb3 := hid (hb.out.trans (hb2.mono hb.out.size))
        clear hb2 hck
        go_wp2_with fail
        exact ⟨⟨m + 1, by go_num, by omega, hb3.out, hnx2.out⟩, by simp [Go.RowKit.intOf]; omega⟩
    · obtain rfl : m = n := by omega
      have t0 : decide ((m : Int) < (m : Int)) = false := decide_eq_false (by omega)
      have hf := hid (okSts_all fun j hj => hall.out j hj (by omega))
      replace hb := hid hb
      go_wp2_with fail
      go_ret
      exact ⟨by rw [hf.out]; rfl, hb.out⟩
theorem ok_1 (V : List (List UInt8)) (s : List UInt8) (e : T) : okSt V (.mk 1 s e [] []) = (decide (0 ≤ ixOf V s) && okE8 V e) := by
  rw [okSt_mk]
  have : kindB V 1 s ((([] : List St).length : Int) == 0) ((([] : List St).length : Int) == 0) = decide (0 ≤ ixOf V s) := by simp [kindB]
  rw [this]
  simp only [okSts, Bool.true_and]
  exact Bool.and_comm _ _
theorem ok_2 (V : List (List UInt8)) (e : T) (bs es : List St) : okSt V (.mk 2 [] e bs es) = (okE8 V e && (okSts V bs && okSts V es)) := by
  rw [okSt_mk]
  have : ∀ a b, kindB V 2 [] a b = true := fun a b => by simp [kindB]
  rw [this, Bool.and_true]
theorem ok_3 (V : List (List UInt8)) (e : T) (bs : List St) : okSt V (.mk 3 [] e bs []) = (okE8 V e && okSts V bs) := by
  rw [okSt_mk]
  have : ∀ a, kindB V 3 [] a ((([] : List St).length : Int) == 0) = true := fun a => by simp [kindB]
  rw [this]
  simp [okSts]
theorem ok_4 (V : List (List UInt8)) (e : T) : okSt V (.mk 4 [] e [] []) = okE8 V e := by
  rw [okSt_mk]
  have : kindB V 4 [] ((([] : List St).length : Int) == 0) ((([] : List St).length : Int) == 0) = true := by simp [kindB]
  rw [this]
  simp [okSts]
theorem istmt8 (V : List (List UInt8)) (hV : V.length ≤ maxI) (hVs : ∀ x ∈ V, x.length ≤ maxI) (t : St) : OvS V t := by
  induction t using St.ind with
  | h k s e bs es ihb ihe =>
    intro A c X w hX hr hA hsz
    rw [exSt_mk] at hsz
    have cE := hid (fun (v : Value) (wx : World) (hb : Below w.heap.size w wx) (hv : Ex (pln w) w.heap.size v e) => iexpr8 V hV hVs e (by omega) v A c wx (ex_go hv hb) ((hr.below hb).more hb.size))
    cases hX with
    | @asg ek en en' _ A1 l1 c1 _ hx =>
      have hb1 := box_below w (.cells #[.int .i64 ek, .int .i64 en, sv en', .slice A1 l1 c1, sv s] 150)
      have hB := hid (Blk.new w 150 [.int .i64 ek, .int .i64 en, sv en', .slice A1 l1 c1, sv s])
      have cI := hid (L2a.index_any A c _ V s _ ((hr.below hb1).more hb1.size) hA hV)
      have cX := hid (cE.out _ _ hb1 hx)
      have hf := hid (ok_1 V s e)
      have q1 := fun V w => sa_aa V w
      have b0 := hB.out.cell 0
      have b1 := hB.out.cell 1
      have b2 := hB.out.cell 2
      have b3 := hB.out.cell 3
      have b4 := hB.out.cell 4
      have hb1 := hid hb1
      clear cE hr ihb ihe hx
      generalize ixOf V s = ix at *
      cases hq : decide (0 ≤ ix) with
      | false =>
        rw [hq] at hf
        clear cX
        go_enter Tryz.func84, Tryz.ntmps84
        go_wp2_with fail
        refine cI.out.mono ?_
        rintro e1 w1 ⟨rfl, rfl⟩
        go_wp2_with fail
        go_ret
        exact ⟨by rw [hf.out]; rfl, hb1.out⟩
      | true =>
        rw [hq, Bool.true_and] at hf
        go_enter Tryz.func84, Tryz.ntmps84
        go_wp2_with fail
        refine cI.out.mono ?_
        rintro e1 w1 ⟨rfl, rfl⟩
        go_wp2_with fail
        refine cX.out.mono ?_
        rintro e2 w2 ⟨rfl, hb2⟩
        have hb3 := hid (hb1.out.trans (hb2.mono hb1.out.size))
        clear hb2
        go_wp2_with fail
        go_ret
        exact ⟨by rw [hf.out]; rfl, hb3.out⟩
    | @chc ek en en' A1 l1 c1 _ hx bs es Ab As cb cs rb rs hlb hls hrb kb hrs ks =>
      have hb1 := box_below w (.cells #[.int .i64 ek, .int .i64 en, sv en', .slice A1 l1 c1, .slice Ab bs.length cb, .slice As es.length cs] 152)
      have hB := hid (Blk.new w 152 [.int .i64 ek, .int .i64 en, sv en', .slice A1 l1 c1, .slice Ab bs.length cb, .slice As es.length cs])
      have cX := hid (cE.out _ _ hb1 hx)
      have cB := hid (fun (wx : World) (hb : Below w.heap.size w wx) => istmts8 V bs ihb A c Ab cb rb wx ((RowR.mk hrb kb).go hb) hlb (by omega) ((hr.below hb).more hb.size) hA)
      have cS := hid (fun (wx : World) (hb : Below w.heap.size w wx) => istmts8 V es ihe A c As cs rs wx ((RowR.mk hrs ks).go hb) hls (by omega) ((hr.below hb).more hb.size) hA)
      have hf := hid (ok_2 V e bs es)
      have q1 := fun V w => sa_ca V w
      have q2 := fun V w => sa_cc V w
      have b0 := hB.out.cell 0
      have b1 := hB.out.cell 1
      have b2 := hB.out.cell 2
      have b3 := hB.out.cell 3
      have hb1 := hid hb1
      clear cE hr ihb ihe hx hrb kb hrs ks
      generalize okE8 V e = oe at *
      generalize okSts V bs = ob at *
      generalize okSts V es = os at *
      go_enter Tryz.func84, Tryz.ntmps84
      go_wp2_with fail
      refine cX.out.mono ?_
      rintro e2 w2 ⟨rfl, hb2⟩
      have hb3 := hid (hb1.out.trans (hb2.mono hb1.out.size))
      have hB2 := hid (hB.out.below hb2 hB.out.lt)
      clear hb2 b0 b1 b2 b3
      cases oe with
      | false =>
        go_wp2_with fail
        go_ret
        exact ⟨by rw [hf.out]; rfl, hb3.out⟩
      | true =>
        rw [Bool.true_and] at hf
        have b4 := hB2.out.cell 4
        go_wp2_with fail
        refine (cB.out _ hb3.out).mono ?_
        rintro e3 w3 ⟨rfl, hb4⟩
        have hb5 := hid (hb3.out.trans (hb4.mono hb3.out.size))
        have hB3 := hid (hB2.out.below hb4 hB2.out.lt)
        clear hb4 b4
        cases ob with
        | false =>
          go_wp2_with fail
          go_ret
          exact ⟨by rw [hf.out]; rfl, hb5.out⟩
        | true =>
          rw [Bool.true_and] at hf
          have b5 := hB3.out.cell 5
          go_wp2_with fail
          refine (cS.out _ hb5.out).mono ?_
          rintro e4 w4 ⟨rfl, hb6⟩
          have hb7 := hid (hb5.out.trans (hb6.mono hb5.out.size))
          clear hb6
          go_wp2_with fail
          go_ret
          exact ⟨by rw [hf.out]; rfl, hb7.out⟩
    | @lop ek en en' A1 l1 c1 _ hx bs Ab cb rb hlb hrb kb =>
      have hb1 := box_below w (.cells #[.int .i64 ek, .int .i64 en, sv en', .slice A1 l1 c1, .slice Ab bs.length cb] 154)
      have hB := hid (Blk.new w 154 [.int .i64 ek, .int .i64 en, sv en', .slice A1 l1 c1, .slice Ab bs.length cb])
      have cX := hid (cE.out _ _ hb1 hx)
      have cB := hid (fun (wx : World) (hb : Below w.heap.size w wx) => istmts8 V bs ihb A c Ab cb rb wx ((RowR.mk hrb kb).go hb) hlb (by omega) ((hr.below hb).more hb.size) hA)
      have hf := hid (ok_3 V e bs)
      have q1 := fun V w => sa_la V w
      have q2 := fun V w => sa_lc V w
      have q3 := fun V w => sa_ll V w
      have b0 := hB.out.cell 0
      have b1 := hB.out.cell 1
      have b2 := hB.out.cell 2
      have b3 := hB.out.cell 3
      have hb1 := hid hb1
      clear cE hr ihb ihe hx hrb kb
      generalize okE8 V e = oe at *
      generalize okSts V bs = ob at *
      go_enter Tryz.func84, Tryz.ntmps84
      go_wp2_with fail
      refine cX.out.mono ?_
      rintro e2 w2 ⟨rfl, hb2⟩
      have hb3 := hid (hb1.out.trans (hb2.mono hb1.out.size))
      have hB2 := hid (hB.out.below hb2 hB.out.lt)
      clear hb2 b0 b1 b2 b3
      cases oe with
      | false =>
        go_wp2_with fail
        go_ret
        exact ⟨by rw [hf.out]; rfl, hb3.out⟩
      | true =>
        rw [Bool.true_and] at hf
        have b4 := hB2.out.cell 4
        go_wp2_with fail
        refine (cB.out _ hb3.out).mono ?_
        rintro e3 w3 ⟨rfl, hb4⟩
        have hb5 := hid (hb3.out.trans (hb4.mono hb3.out.size))
        clear hb4 b4
        go_wp2_with fail
        go_ret
        exact ⟨by rw [hf.out]; rfl, hb5.out⟩
    | @emi ek en en' A1 l1 c1 _ hx =>
      have hb1 := box_below w (.cells #[.int .i64 ek, .int .i64 en, sv en', .slice A1 l1 c1] 156)
      have hB := hid (Blk.new w 156 [.int .i64 ek, .int .i64 en, sv en', .slice A1 l1 c1])
      have cX := hid (cE.out _ _ hb1 hx)
      have hf := hid (ok_4 V e)
      have q1 := fun V w => sa_ea V w
      have q2 := fun V w => sa_ec V w
      have q3 := fun V w => sa_el V w
      have q4 := fun V w => sa_ee V w
      have b0 := hB.out.cell 0
      have b1 := hB.out.cell 1
      have b2 := hB.out.cell 2
      have b3 := hB.out.cell 3
      have hb1 := hid hb1
      clear cE hr ihb ihe hx
      generalize okE8 V e = oe at *
      go_enter Tryz.func84, Tryz.ntmps84
      go_wp2_with fail
      refine cX.out.mono ?_
      rintro e2 w2 ⟨rfl, hb2⟩
      have hb3 := hid (hb1.out.trans (hb2.mono hb1.out.size))
      clear hb2 b0 b1 b2 b3
      go_wp2_with fail
      go_ret
      exact ⟨by rw [hf.out]; rfl, hb3.out⟩
open Gs Kd
theorem ivars8 (V : List (List UInt8)) (hs : ∀ x ∈ V, x.length ≤ maxI) (hV : V.length ≤ maxI) (A : Option Addr) (c : Nat) (w : World) (hr : Rd w w.heap.size A (V.map sv)) :
    Calls Tryz.prog 56 #[.slice A V.length c] w fun e w' => e = .returned (.bool (varsB V)) ∧ Below w.heap.size w w' := by
  have hV63 : V.length ≤ 9223372036854775807 := hV
  by_cases h2 : V.length ≤ 2
  · have cD := distinct_any A c V w hr hs hV
    have t2 : decide ((2 : Int) < (V.length : Int)) = false := decide_eq_false (by omega)
    have hdef : varsB V = (V.all validB && distB V) := by unfold varsB; rw [decide_eq_true h2, Bool.true_and]
    generalize hR : varsB V = R at *
    replace cD := hid cD
    generalize distB V = d at *
    cases d with
    | false =>
      have hf := hid (hdef.trans (Bool.and_false _))
      generalize hL : V.length = n at *
      go_enter Tryz.func56, Tryz.ntmps56
      go_wp2_with fail
      refine cD.out.mono ?_
      rintro e2 w2 ⟨rfl, hb2⟩
      have hb2 := hid hb2
      go_wp2_with fail
      go_ret
      exact ⟨by rw [hf.out]; rfl, hb2.out⟩
    | true =>
      rw [Bool.and_true] at hdef
      generalize hL : V.length = n at *
      go_enter Tryz.func56, Tryz.ntmps56
      go_wp2_with fail
      refine cD.out.mono ?_
      rintro e2 w2 ⟨rfl, hb2⟩
      have hb2 := hid hb2
      go_wp2_with fail
      go_loopw [15] (fun i wr => ∃ m : Nat, m ≤ n ∧ i = .int .i64 m ∧ (∀ j, (hj : j < V.length) → j < m → validB V[j] = true) ∧ Below w.heap.size w wr) (fun i _ => n - (Go.RowKit.intOf i).toNat)
      case atStart => exact ⟨0, Nat.zero_le _, rfl, fun j _ h => absurd h (Nat.not_lt_zero _), hb2.out⟩
      case round =>
        obtain ⟨m, hm, rfl, hall, hb⟩ := hrel
        by_cases hlt : m < n
        · have hml : m < V.length := by omega
          have t0 : decide ((m : Int) < (n : Int)) = true := decide_eq_true (by omega)
          have t1 : (m : Int) < (n : Int) := by omega
          obtain ⟨ad, rfl, _, hcm⟩ := Lh.rd_str (hr.below hb) hml
          have hck := valid_any V[m] wr (hs _ (List.getElem_mem hml))
          replace hall := hid hall
          replace hb := hid hb
          cases hq : validB V[m] with
          | true =>
            rw [hq] at hck
            have hnx := hid (show ∀ j, (hj : j < V.length) → j < m + 1 → validB V[j] = true from fun j hj h2 => by
              by_cases e : j = m
              · subst e; exact hq
              · exact hall.out j hj (by omega))
            replace hck := hid hck
            clear hq
            generalize V[m] = x at *
            go_wp2_with fail
            refine hck.out.mono ?_
            rintro e2 w3 ⟨rfl, hb3⟩
            have hb3 := hid (hb.out.trans (hb3.mono hb.out.size))
            go_wp2_with fail
            exact ⟨⟨m + 1, hlt, by go_num, hnx.out, hb3.out⟩, by simp [Go.RowKit.intOf]; omega⟩
          | false =>
            rw [hq] at hck
            have hf := hid (show R = false by
              rw [hdef, List.all_eq_false]
              exact ⟨V[m], List.getElem_mem hml, by rw [hq]; simp⟩)
            replace hck := hid hck
            clear hq
            generalize V[m] = x at *
            go_wp2_with fail
            refine hck.out.mono ?_
            rintro e2 w3 ⟨rfl, hb3⟩
            have hb3 := hid (hb.out.trans (hb3.mono hb.out.size))
            go_wp2_with fail
            go_ret
            exact ⟨by rw [hf.out]; rfl, hb3.out⟩
        · obtain rfl : m = n := by omega
          have t0 : decide ((m : Int) < (m : Int)) = false := decide_eq_false (by omega)
          have hf := hid (show R = true by
            rw [hdef, List.all_eq_true]
            intro x hx
            obtain ⟨j, hj, e⟩ := List.getElem_of_mem hx
            rw [← e]; exact hall j hj (by omega))
          replace hb := hid hb
          clear hall
          go_wp2_with fail
          go_ret
          exact ⟨by rw [hf.out]; rfl, hb.out⟩
  · have t2 : decide ((2 : Int) < (V.length : Int)) = true := decide_eq_true (by omega)
    have hf := hid (show varsB V = false by unfold varsB; rw [decide_eq_false h2, Bool.false_and, Bool.and_false])
    clear h2
    generalize V.length = n at *
    go_enter Tryz.func56, Tryz.ntmps56
    go_wp2_with fail
    go_ret
    exact ⟨by rw [hf.out]; rfl, Below.refl _ _⟩
theorem la_rows {W : World} {B : Nat} {l : Kd.LN St} (h : LA W B l) : ∃ rows, Row W B 1 l.A (dl l.ks) rows := by
  obtain ⟨rows, h⟩ := h
  refine ⟨rows, fun j hj => ?_, fun j e he => ?_⟩
  · obtain ⟨ad, ea, hB, hw, hld⟩ := h.cell j (by simpa [dl] using hj)
    exact ⟨hw, ad, ea, hB, hld⟩
  · rw [List.getElem?_map] at he
    obtain ⟨t, ht, rfl⟩ := Option.map_eq_some_iff.1 he
    exact h.kid j t ht
theorem ivalidP (p : Pg) (w : World) (A : Option Addr) (c : Nat) (Bb : Option Addr) (cb : Nat) (hr : Rd w w.heap.size A (p.vs.map sv)) (hA : ∀ ad, A = some ad → ad = ⟨ad.block, 0, none⟩) (hV : p.vs.length ≤ maxI) (hVs : ∀ x ∈ p.vs, x.length ≤ maxI)
    (hla : LA (pln w) w.heap.size ⟨Bb, cb, p.body⟩) (hcn : cntL p.body ≤ 4000000) (hex : exL p.body ≤ 1048576) :
    Calls Tryz.prog 30 #[.agg #[.slice A p.vs.length c, .slice Bb p.body.length cb]] w fun e w' => e = .returned (.bool (okP p)) ∧ Below w.heap.size w w' := by
  have hb1 := box_below w (.cells #[.slice A p.vs.length c, .slice Bb p.body.length cb] 27)
  have hB1 := hid (Blk.new w 27 [.slice A p.vs.length c, .slice Bb p.body.length cb])
  have cV := hid (ivars8 p.vs hVs hV A c _ ((hr.below hb1).more hb1.size))
  have cC := hid (fun (W : World) (hW : Below w.heap.size w W) => icountL ⟨Bb, cb, p.body⟩ W (la_mono hla hW) hcn)
  have cD := hid (fun (W : World) (hW : Below w.heap.size w W) => idepthL ⟨Bb, cb, p.body⟩ W (la_mono hla hW) hcn)
  have hll := len_cntL p.body
  have cR := hid (fun (W : World) (hW : Below w.heap.size w W) => by
    obtain ⟨rows, hrow⟩ := la_rows (la_mono hla hW)
    exact rstmts p.body (fun a _ => rstmt a) W.heap.size Bb cb rows W (Nat.le_refl _) hrow (by omega) hcn)
  have cO := hid (fun (W : World) (hW : Below w.heap.size w W) (B : Option Addr) (cb : Nat) (rows : Nat → Value) (hk : RowR (pln W) W.heap.size B p.body rows) => istmts8 p.vs p.body (fun a _ => istmt8 p.vs hV hVs a) A c B cb rows W hk (by unfold maxI; omega) hex ((hr.below hW).more hW.size) hA)
  have hR : okP p = (varsB p.vs && (decide (cntL p.body ≤ 8) && (decide (depL p.body ≤ 3) && okSts p.vs p.body))) := rfl
  have hno := hid (fun h => oks_k (V := p.vs) (L := p.body) h)
  replace hb1 := hid hb1
  obtain ⟨b0, b1⟩ := two hB1.out
  dsimp only at cC cD
  generalize okP p = R at *
  clear hr hla hll hA
  generalize hvB : varsB p.vs = vb at *
  generalize cntL p.body = cn at *
  generalize depL p.body = dn at *
  cases vb with
  | false =>
    have hf := hid (hR.trans (Bool.false_and _))
    go_enter Tryz.func30, Tryz.ntmps30
    go_wp2_with fail
    refine cV.out.mono ?_
    rintro e2 w2 ⟨rfl, hb2⟩
    have hb2 := hid (hb1.out.trans (hb2.mono hb1.out.size))
    go_wp2_with fail
    go_ret
    exact ⟨by rw [hf.out]; rfl, hb2.out⟩
  | true =>
    rw [Bool.true_and] at hR
    go_enter Tryz.func30, Tryz.ntmps30
    go_wp2_with fail
    refine cV.out.mono ?_
    rintro e2 w2 ⟨rfl, hb2⟩
    have hB2 := hid (hB1.out.below hb2 hB1.out.lt)
    have hb2 := hid (hb1.out.trans (hb2.mono hb1.out.size))
    clear b0 b1
    obtain ⟨b0, b1⟩ := two hB2.out
    go_wp2_with fail
    refine (cC.out _ hb2.out).mono ?_
    rintro e3 w3 ⟨rfl, hb3⟩
    have hB3 := hid (hB2.out.below hb3 hB2.out.lt)
    have hb3 := hid (hb2.out.trans (hb3.mono hb2.out.size))
    clear b0 b1
    obtain ⟨b0, b1⟩ := two hB3.out
    by_cases hc8 : cn ≤ 8
    · have t8 : decide ((8 : Int) < (cn : Int)) = false := decide_eq_false (by omega)
      rw [decide_eq_true hc8, Bool.true_and] at hR
      go_wp2_with fail
      refine (cD.out _ hb3.out).mono ?_
      rintro e4 w4 ⟨rfl, hb4⟩
      have hB4 := hid (hB3.out.below hb4 hB3.out.lt)
      have hb4 := hid (hb3.out.trans (hb4.mono hb3.out.size))
      clear b0 b1
      obtain ⟨b0, b1⟩ := two hB4.out
      by_cases hd3 : dn ≤ 3
      · have t3 : decide ((3 : Int) < (dn : Int)) = false := decide_eq_false (by omega)
        rw [decide_eq_true hd3, Bool.true_and] at hR
        go_wp2_with fail
        refine (cR.out _ hb4.out).mono ?_
        rintro e5 w5 ⟨PA, pn, pc, rfl, hp, hb5⟩
        have hB5 := hid (hB4.out.below hb5 hB4.out.lt)
        have hw5 := hid (hb4.out.trans (hb5.mono hb4.out.size))
        clear b0 b1
        obtain ⟨b0, b1⟩ := two hB5.out
        generalize kOks p.body = ko at *
        cases ko with
        | false =>
          have hf := hid (hR.trans (hno.out rfl))
          clear hp hb5
          go_wp2_with fail
          go_ret
          exact ⟨by rw [hf.out]; rfl, hw5.out⟩
        | true =>
          obtain ⟨rfl, rows', hr'⟩ := hp rfl
          have cO2 := hid (cO.out _ hw5.out PA pc rows' (hr'.cry (cry_zp _ _ _) (Nat.le_refl _)))
          replace hR := hid hR
          clear hr' hp hb5
          go_wp2_with fail
          refine cO2.out.mono ?_
          rintro e6 w6 ⟨rfl, hb6⟩
          have hb7 := hid (hw5.out.trans (hb6.mono hw5.out.size))
          clear hb6
          go_wp2_with fail
          go_ret
          exact ⟨by rw [hR.out]; rfl, hb7.out⟩
      · have t3 : decide ((3 : Int) < (dn : Int)) = true := decide_eq_true (by omega)
        have hf := hid (show R = false by rw [hR, decide_eq_false hd3, Bool.false_and])
        go_wp2_with fail
        go_ret
        exact ⟨by rw [hf.out]; rfl, hb4.out⟩
    · have t8 : decide ((8 : Int) < (cn : Int)) = true := decide_eq_true (by omega)
      have hf := hid (show R = false by rw [hR, decide_eq_false hc8, Bool.false_and])
      go_wp2_with fail
      go_ret
      exact ⟨by rw [hf.out]; rfl, hb3.out⟩
end Go.Proofs.YtnmomlaimffonaaGreat.Sr
