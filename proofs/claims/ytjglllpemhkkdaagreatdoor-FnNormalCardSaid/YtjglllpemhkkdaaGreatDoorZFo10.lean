/- The program's FormatStmts by its contract. -/
import Derived.Test.YtjglllpemhkkdaaGreatDoorZFm10
import Derived.Test.YtjglllpemhkkdaaGreatDoorZTx8
import Derived.Test.YtjglllpemhkkdaaGreatDoorZE8
import Derived.Test.YtjglllpemhkkdaaGreatDoorZMes
import Derived.Test.YtjglllpemhkkdaaGreatDoorZI7a
import Derived.Test.YtjglllpemhkkdaaGreatDoorRows
import Derived.Test.YtjglllpemhkkdaaGreatDoorZSt4
import Derived.Test.YtjglllpemhkkdaaGreatDoorZI7b
import Derived.LaidHandle
import Derived.LaidLaws
import Derived.Stop.LaidErr
import Derived.RowKitTokens
import Derived.WalkKit
import Derived.ProofKit
import Derived.Deep.DeepHandedRow
set_option maxRecDepth 100000
namespace Go.Proofs.YtjglllpemhkkdaaGreatDoor.Gp
open Go.RowKit Go.Lib Go.Sort Com Mem Ow YtjglllpemhkkdaaGreatDoor.Os Tr Tk Im Ag Pl Kd Gs Gd

theorem own_rowG {e lo : Nat} {w : World} {v : Value} {xs : List Value} (h : w.ownsRow lo e 1 v xs.length xs) : Os.Own e lo w.heap.size w v xs := by
  rcases h.2 with ⟨hv, hn⟩ | ⟨g, c, cur, hv, hb, hblk, hnc, hcm, _, ht⟩
  · have hx := List.eq_nil_of_length_eq_zero hn
    subst hx
    exact ⟨none, 0, [], hv, Nat.le_refl _, Nat.zero_le _, fun _ => ⟨rfl, rfl⟩, (fun ad e => by cases e), rfl⟩
  · refine ⟨some ⟨g, 0, none⟩, c, cur.toList, hv, hnc, hcm, (fun e => by cases e), (fun ad e => ?_), by simpa using ht⟩
    cases e
    exact ⟨rfl, hb, (Array.getElem?_eq_some_iff.1 hblk).1, by unfold Blk; rw [Array.toArray_toList]; exact hblk⟩
theorem tJ_mem {L : List St} {m : Nat} {t : St} (h : L[m]? = some t) : (tSt t).length ≤ (tJ L).length := by
  obtain ⟨hm, rfl⟩ := List.getElem?_eq_some_iff.1 h
  have := tJ_le hm
  omega
set_option maxHeartbeats 4000000 in
theorem iformatL (A : Option Addr) (c : Nat) (L : List St) (w : World) (h : LA (pln w) w.heap.size ⟨A, c, L⟩) (hs : shbL L) (hp : L1b.Pow w) (hc : cntL L ≤ 1100000) (hl : (tJ L).length ≤ 100000000000) :
    Calls Tryz.prog 24 #[.slice A L.length c] w fun e w' => ∃ v, e = .returned v ∧ Grow 9 w w' v ((tL L).map sv) := by
  have hln := len_cntL L
  have hnode := hid (fun (m : Nat) (t : St) (hm : L[m]? = some t) (W : World) (hW : Below w.heap.size w W) => la_node h hW hm)
  have hfm := hid (fun (m : Nat) (t : St) (hm : L[m]? = some t) v0 v1 v2 v3 v4 v5 v6 v7 (W : World) (hr : RdN (pln W) W.heap.size [v0, v1, v2, v3, v4, v5, v6, v7] t) (hW : Below w.heap.size w W) => iformat1 t v0 v1 v2 v3 v4 v5 v6 v7 W hr (shbL_get hs hm) (hp.below hW) (by have := cntSt_mem (List.mem_of_getElem? hm); omega) (by have := tJ_mem hm; omega))
  obtain ⟨n, hn⟩ : ∃ n, L.length = n := ⟨_, rfl⟩
  rw [hn] at hln ⊢
  replace hn := hid hn
  clear h hs hp hl
  go_enter Tryz.func24, Tryz.ntmps24
  go_wp2_with fail
  go_loopw [8, 3] (fun i v wr => ∃ m : Nat, m ≤ n ∧ i = .int .i64 (m : Nat) ∧ Grow 9 w wr v ((tL (L.take m)).map sv)) (fun i _ _ => n - (Go.RowKit.intOf i).toNat)
  case atStart => exact ⟨0, Nat.zero_le _, rfl, by simpa [tL] using Grow.nil_ w 9 (Below.refl _ _)⟩
  case round =>
    obtain ⟨m, hm, rfl, hG⟩ := hrel
    by_cases hlt : m < n
    · obtain ⟨t, ht⟩ : ∃ t, L[m]? = some t := ⟨_, List.getElem?_eq_getElem (by rw [hn.out]; exact hlt)⟩
      obtain ⟨ad, nk, ns, ek, en, es, nA, nl, nc, qA, ql, qc, oA, ol, oc, hA, hld, hrd⟩ := hnode.out m t ht wr hG.2
      have hA : A = some ad := hA
      subst hA
      obtain ⟨p0, p1, p2, p3, p4, p5, p6, p7⟩ := ldC_at hld
      have t1 : (m : Int) < (n : Int) := by omega
      have hbx := box_below wr (.cells #[.int .i64 nk, sv ns, .int .i64 ek, .int .i64 en, sv es, .slice nA nl nc, .slice qA ql qc, .slice oA ol oc] 87)
      have hBx := hid (Blk.new wr 87 [.int .i64 nk, sv ns, .int .i64 ek, .int .i64 en, sv es, .slice nA nl nc, .slice qA ql qc, .slice oA ol oc])
      have hG2 := hG.below hbx (Nat.le_refl _)
      have hcl := hid (hfm.out m t ht _ _ _ _ _ _ _ _ _ (rdN_go hrd hG2.2) hG2.2)
      have hst := hid (show (tL (L.take (m + 1))).map sv = (tL (L.take m)).map sv ++ [sv (tSt t)] by
        rw [List.take_add_one, ht]; simp [tL])
      have hq : ((tL (L.take m)).map sv).length < 1000000000000 := by have := List.length_take_le m L; rw [List.length_map, tL_len]; omega
      obtain ⟨k0, k1, k2, k3, k4, k5, k6, k7⟩ := eight hBx.out
      replace hG2 := hid hG2
      generalize tSt t = x at *
      clear hG hld hrd hbx
      go_wp2_with fail
      generalize (wr.alloc (.cells #[.int .i64 nk, sv ns, .int .i64 ek, .int .i64 en, sv es, .slice nA nl nc, .slice qA ql qc, .slice oA ol oc] 87)) = w1 at *
      refine hcl.out.mono ?_
      rintro e2 w2 ⟨rfl, hb2⟩
      have hG3 := hid (hG2.out.below hb2 (Nat.le_refl _))
      clear hb2 hcl k0 k1 k2 k3 k4 k5 k6 k7 p0 p1 p2 p3 p4 p5 p6 p7 hG2
      go_wp2_with (at_builtin; refine hG3.out.append strT (sv x) rfl hq rfl _ _ rfl rfl rfl ?_; intro v5 w5 hG5 _ _; replace hG5 := hid hG5)
      exact ⟨⟨m + 1, hlt, by go_num, by rw [hst.out]; exact hG5.out⟩, by simp [Go.RowKit.intOf]; omega⟩
    · obtain rfl : m = n := by omega
      have hfin := hid (show tL (L.take m) = tL L by rw [List.take_of_length_le (by rw [hn.out]; exact Nat.le_refl _)])
      replace hG := hid hG
      go_wp2_with fail
      go_ret
      exact ⟨_, rfl, by rw [← hfin.out]; exact hG.out⟩
theorem iformatL_own {lo hi : Nat} {v : Value} {L : List St} (w : World) (hp : L1b.Pow w) (h : OwnL lo hi w v L) (hz : szL8 L ≤ 1048576) :
    Calls Tryz.prog 24 #[v] w fun e w' => ∃ r, e = .returned r ∧ OwnS w.heap.size w'.heap.size w' r (tL L) ∧ Below w.heap.size w w' := by
  obtain ⟨A, c, rfl, hl⟩ := own_la h
  have h1 := cnt_sz8 L
  have h2 := tJ_sz L
  have h3 : szDL (dl L) ≤ szL8 L := by unfold szL8; omega
  exact (iformatL A c L w hl (shbL_sz (by omega)) hp (by omega) (by omega)).mono fun e w' ⟨v, e1, hG⟩ => ⟨v, e1, own_rowG hG.1, hG.2⟩
theorem sformatL_own {lo hi : Nat} {v : Value} {L : List St} (w : World) (h : OwnL lo hi w v L) (hz : szL8 L ≤ 1048576) :
    Calls Tryz.prog 29 #[v] w fun e w' => ∃ r, e = .returned r ∧ OwnS w.heap.size w'.heap.size w' r (tL L) ∧ Below w.heap.size w w' := by
  obtain ⟨A, c, rows, rfl, hk, hl⟩ := h.row
  have h1 := cnt_sz8 L
  have h2 := tJ_sz L
  have h4 : exL L ≤ szL8 L := by have := ex_szDL L; unfold szL8; omega
  have h3 : szDL (dl L) ≤ szL8 L := by unfold szL8; omega
  exact (fsL L A c rows w hk (by omega) (by omega) (by omega)).mono fun e w' ⟨v, e1, hG⟩ => ⟨v, e1, own_rowG hG.1, hG.2⟩
end Go.Proofs.YtjglllpemhkkdaaGreatDoor.Gp

/- FnExactFormatStmts: the law's walk, written by program out of the law's own text. -/
set_option maxRecDepth 100000
namespace Go.Proofs.YtjglllpemhkkdaaGreatDoor.WExactFormatStmts
open Go.RowKit Go.Lib Com Mem Lh YtjglllpemhkkdaaGreatDoor.Os Tr Gd Gp
set_option maxHeartbeats 8000000 in
theorem walkFormatStmts (w : World) (hp : L1b.Pow w) (A_aList : Option Addr) (c_aList : Nat) (L : List St) (rows_aList : Nat → List Value) (h_aList : Row w w.heap.size 1 A_aList (dl L) rows_aList) (hl_aList : L.length ≤ maxI) :
    Calls Tryz.prog 7 #[.slice A_aList L.length c_aList] w fun e w' => e = .returned (.bool true) ∧ Below w.heap.size w w' := by
  have hp := hid (fun (w' : World) (h : Below w.heap.size w w') => hp.below h)
  have Z0 := hid (Below.refl w.heap.size w)
  by_cases hsm_aList : 1048576 < ((szL8 L : Nat) : Int)
  · have hsz_aList := hid (fun (w1 : World) (hb : Below w.heap.size w w1) => szL8_over A_aList c_aList L rows_aList (1048576) w1 (h_aList.go hb) hl_aList (by omega) (by omega) (by omega))
    go_enter Tryz.func7, Tryz.ntmps7
    go_wp2_with fail
    refine (hsz_aList.out _ Z0.out).mono ?_
    rintro e wz1 ⟨rfl, hb⟩
    have Z1 := hid (Z0.out.trans (hb.mono Z0.out.size))
    clear hb
    go_wp2_with fail
    go_ret
    exact ⟨rfl, Z1.out⟩
  have hsz_aList := hid (fun (w1 : World) (hb : Below w.heap.size w w1) => szL8_fit A_aList c_aList L rows_aList (1048576) w1 (h_aList.go hb) hl_aList (by omega) (by omega) (by omega))
  have hz_aList : szL8 L ≤ 1048576 := by omega
  have bc_aList : markCL L ≤ 5242880 := by have := markCL_sz L; omega
  have t_aList : decide (1048576 - ((szL8 L : Nat) : Int) < 0) = false := decide_eq_false (by omega)
  have bd0 : (tL L).length ≤ 4194304 := by have := tL_len L; have := len_cntL L; have := cnt_sz8 L; omega
  have to_aList := hid (fun (w1 : World) (hb : Below w.heap.size w w1) => toL_own A_aList c_aList L rows_aList w1 (h_aList.go hb) hz_aList)
  go_enter Tryz.func7, Tryz.ntmps7
  go_wp2_with fail
  refine (hsz_aList.out _ Z0.out).mono ?_
  rintro e wz1 ⟨rfl, hb⟩
  have Z1 := hid (Z0.out.trans (hb.mono Z0.out.size))
  clear hb
  go_wp2_with fail
  have B0 := Z1
  have s0 := B0.out.size
  refine (to_aList.out _ B0.out).mono ?_
  rintro e W1 ⟨rfl, o_t1, hb⟩
  have s1 := hb.size
  have o_t1 := hid o_t1
  have B1 := hid (B0.out.trans (hb.mono (by omega)))
  clear hb
  go_wp2_with fail
  refine (sformatL_own _ o_t1.out hz_aList).mono ?_
  rintro e W2 ⟨r_w0, rfl, o_w0, hb⟩
  clear o_t1
  have s2 := hb.size
  have o_w0 := hid o_w0
  have B2 := hid (B1.out.trans (hb.mono (by omega)))
  clear hb
  go_wp2_with fail
  refine (to_aList.out _ B2.out).mono ?_
  rintro e W3 ⟨rfl, o_t2, hb⟩
  have s3 := hb.size
  replace o_w0 := hid (o_w0.out.same (same_below hb (by omega)))
  have o_t2 := hid o_t2
  have B3 := hid (B2.out.trans (hb.mono (by omega)))
  clear hb
  go_wp2_with fail
  refine (iformatL_own _ (hp.out _ B3.out) o_t2.out hz_aList).mono ?_
  rintro e W4 ⟨r_g0, rfl, o_g0, hb⟩
  have s4 := hb.size
  replace o_w0 := hid (o_w0.out.same (same_below hb (by omega)))
  replace o_t2 := hid (o_t2.out.same (same_below hb (by omega)))
  have o_g0 := hid o_g0
  have B4 := hid (B3.out.trans (hb.mono (by omega)))
  clear hb
  go_wp2_with fail
  refine (eqS_own _ o_g0.out o_w0.out).mono ?_
  rintro e W5 ⟨rfl, hb⟩
  have s5 := hb.size
  replace o_w0 := hid (o_w0.out.same (same_below hb (by omega)))
  replace o_t2 := hid (o_t2.out.same (same_below hb (by omega)))
  replace o_g0 := hid (o_g0.out.same (same_below hb (by omega)))
  have B5 := hid (B4.out.trans (hb.mono (by omega)))
  clear hb
  go_wp2_with fail
  refine (to_aList.out _ B5.out).mono ?_
  rintro e W6 ⟨rfl, o_t3, hb⟩
  have s6 := hb.size
  replace o_w0 := hid (o_w0.out.same (same_below hb (by omega)))
  replace o_t2 := hid (o_t2.out.same (same_below hb (by omega)))
  replace o_g0 := hid (o_g0.out.same (same_below hb (by omega)))
  have o_t3 := hid o_t3
  have B6 := hid (B5.out.trans (hb.mono (by omega)))
  clear hb
  go_wp2_with fail
  refine (eqL_own _ o_t2.out o_t3.out).mono ?_
  rintro e W7 ⟨rfl, hb⟩
  clear o_t3
  have s7 := hb.size
  replace o_w0 := hid (o_w0.out.same (same_below hb (by omega)))
  replace o_t2 := hid (o_t2.out.same (same_below hb (by omega)))
  replace o_g0 := hid (o_g0.out.same (same_below hb (by omega)))
  have B7 := hid (B6.out.trans (hb.mono (by omega)))
  clear hb
  go_wp2_with fail
  refine (markL_own (1) _ o_t2.out (by omega) (by omega) (by omega)).mono ?_
  rintro e W8 ⟨rfl, o_t2, hc⟩
  have s8 := hc.size
  replace o_w0 := hid (o_w0.out.same (same_chg hc (by omega) (by omega)))
  replace o_g0 := hid (o_g0.out.same (same_chg hc (by omega) (by omega)))
  replace o_t2 := hid o_t2
  have B8 := hid (below_chg B7.out hc (by omega) (by omega))
  clear hc
  have tk8 : decide (1 + ((markCL (L) : Nat) : Int) < 0) = false := decide_eq_false (by omega)
  go_wp2_with fail
  refine (eqS_own _ o_g0.out o_w0.out).mono ?_
  rintro e W9 ⟨rfl, hb⟩
  have s9 := hb.size
  replace o_w0 := hid (o_w0.out.same (same_below hb (by omega)))
  replace o_t2 := hid (o_t2.out.same (same_below hb (by omega)))
  replace o_g0 := hid (o_g0.out.same (same_below hb (by omega)))
  have B9 := hid (B8.out.trans (hb.mono (by omega)))
  clear hb
  go_wp2_with fail
  refine (markS_own (1) _ o_g0.out (by omega) (by omega)).mono ?_
  rintro e W10 ⟨rfl, o_g0, hc⟩
  have s10 := hc.size
  replace o_w0 := hid (o_w0.out.same (same_chg hc (by omega) (by omega)))
  replace o_t2 := hid (o_t2.out.same (same_chg hc (by omega) (by omega)))
  replace o_g0 := hid o_g0
  have B10 := hid (below_chg B9.out hc (by omega) (by omega))
  clear hc
  go_wp2_with fail
  refine (heldS_own (1) _ o_g0.out (by omega) (by omega)).mono ?_
  rintro e W11 ⟨rfl, hb⟩
  have s11 := hb.size
  replace o_w0 := hid (o_w0.out.same (same_below hb (by omega)))
  replace o_t2 := hid (o_t2.out.same (same_below hb (by omega)))
  replace o_g0 := hid (o_g0.out.same (same_below hb (by omega)))
  have B11 := hid (B10.out.trans (hb.mono (by omega)))
  clear hb
  go_wp2_with fail
  refine (to_aList.out _ B11.out).mono ?_
  rintro e W12 ⟨rfl, o_t4, hb⟩
  have s12 := hb.size
  replace o_w0 := hid (o_w0.out.same (same_below hb (by omega)))
  replace o_t2 := hid (o_t2.out.same (same_below hb (by omega)))
  replace o_g0 := hid (o_g0.out.same (same_below hb (by omega)))
  have o_t4 := hid o_t4
  have B12 := hid (B11.out.trans (hb.mono (by omega)))
  clear hb
  go_wp2_with fail
  refine (iformatL_own _ (hp.out _ B12.out) o_t4.out hz_aList).mono ?_
  rintro e W13 ⟨r_h0, rfl, o_h0, hb⟩
  clear o_t4
  have s13 := hb.size
  replace o_w0 := hid (o_w0.out.same (same_below hb (by omega)))
  replace o_t2 := hid (o_t2.out.same (same_below hb (by omega)))
  replace o_g0 := hid (o_g0.out.same (same_below hb (by omega)))
  have o_h0 := hid o_h0
  have B13 := hid (B12.out.trans (hb.mono (by omega)))
  clear hb
  go_wp2_with fail
  refine (eqS_own _ o_h0.out o_w0.out).mono ?_
  rintro e W14 ⟨rfl, hb⟩
  have s14 := hb.size
  replace o_w0 := hid (o_w0.out.same (same_below hb (by omega)))
  replace o_t2 := hid (o_t2.out.same (same_below hb (by omega)))
  replace o_g0 := hid (o_g0.out.same (same_below hb (by omega)))
  replace o_h0 := hid (o_h0.out.same (same_below hb (by omega)))
  have B14 := hid (B13.out.trans (hb.mono (by omega)))
  clear hb
  go_wp2_with fail
  refine (heldS_own (1) _ o_g0.out (by omega) (by omega)).mono ?_
  rintro e W15 ⟨rfl, hb⟩
  have s15 := hb.size
  replace o_w0 := hid (o_w0.out.same (same_below hb (by omega)))
  replace o_t2 := hid (o_t2.out.same (same_below hb (by omega)))
  replace o_g0 := hid (o_g0.out.same (same_below hb (by omega)))
  replace o_h0 := hid (o_h0.out.same (same_below hb (by omega)))
  have B15 := hid (B14.out.trans (hb.mono (by omega)))
  clear hb
  go_wp2_with fail
  go_ret
  exact ⟨rfl, B15.out⟩
end Go.Proofs.YtjglllpemhkkdaaGreatDoor.WExactFormatStmts
namespace Go.Proofs.YtjglllpemhkkdaaGreatDoor.L1b
open Go.RowKit Go.Lib Go.ChangeShapes Go.WideShapes
theorem pow_ofFS {W : World} (h : laidMetH Tryz.prog Rows.fnExactFormatStmtsRow.laid W) : Pow W :=
  Lib.tabIs_of_head (rest := []) (g := 3) (t := 343) (e := 330) (n := 20) (by kernel_rfl) (by kernel_rfl) Tryz.underlying343 Tryz.underlying330 (by kernel_rfl) (by kernel_rfl) (met_tail (met_tail h))
end Go.Proofs.YtjglllpemhkkdaaGreatDoor.L1b

/- What the listed variables hold, out of the rows' condition (tables, a handle, a sentinel); a world in which they hold it. -/
set_option maxRecDepth 100000
namespace Go.Proofs.YtjglllpemhkkdaaGreatDoor.La
open Go.ChangeShapes Go.WideShapes Go.ChangeAt Go.RowKit Go.Proofs.YtjglllpemhkkdaaGreatDoor Close

abbrev NVN : String := "loop.example/g00514/impl.errNotValid"
theorem et : Tryz.prog.globalNamed "errors.errorType" = some 1 := by kernel_rfl
theorem nvg : Tryz.prog.globalNamed NVN = some 0 := by kernel_rfl
theorem nvType : (Tryz.prog.globals[0]?).map (·.type) = some 118 := by kernel_rfl
theorem rt : (Tryz.prog.cutTypes.find? (·.1 == "internal/reflectlite.rtype")).map (·.2) = some As.RT := by kernel_rfl
theorem oneRow : ((List.range 484).filter fun t => Tryz.prog.rowNamed t [101, 114, 114, 111, 114]) = [118] := by kernel_rfl
theorem size : Tryz.prog.types.size ≤ 484 := of_decide_eq_true (by kernel_rfl)
theorem cellsES : Tryz.prog.cellsOf 374 = 1 := by kernel_rfl
theorem star : "*" ++ "errors.errorString" = "*errors.errorString" := by decide
theorem rowES (u : TypeId) (h : Tryz.prog.typeName? 3 u = some "*errors.errorString") : u = 355 :=
  typeName_ptr_named (nm := "errors.errorString") (by rw [star]; kernel_rfl) (by kernel_rfl) (by decide) u (by rw [star]; exact h)
abbrev DD : List (String × DataW Unit) := [("math/bits.deBruijn32tab", Rows.laid_math_bits_deBruijn32tab), ("math/bits.deBruijn64tab", Rows.laid_math_bits_deBruijn64tab), ("internal/strconv.uint64pow10", Rows.laid_internal_strconv_uint64pow10), (NVN, Rows.laid_loop_example_g00514_impl_errNotValid)]
abbrev LL : List (String × DataW Unit) := [("math/bits.deBruijn32tab", Rows.laid_math_bits_deBruijn32tab), ("math/bits.deBruijn64tab", Rows.laid_math_bits_deBruijn64tab), ("internal/strconv.uint64pow10", Rows.laid_internal_strconv_uint64pow10), ("errors.errorType", Rows.laid_errors_errorType), (NVN, Rows.laid_loop_example_g00514_impl_errNotValid)]
theorem split {W : World} (h : laidMetH Tryz.prog LL W) : laidMet Tryz.prog DD W ∧ handlesMet Tryz.prog [("errors.errorType", Rows.laid_errors_errorType)] W := h
theorem pow_of_laid {W : World} (h : laidMetH Tryz.prog LL W) : L1b.Pow W :=
  Lib.tabIs_of_head (rest := [(NVN, Rows.laid_loop_example_g00514_impl_errNotValid)]) (g := 3) (t := 343) (e := 330) (n := 20) (by kernel_rfl) (by kernel_rfl) Tryz.underlying343 Tryz.underlying330 (by kernel_rfl) (by kernel_rfl) (L1b.met_tail (L1b.met_tail (split h).1))
theorem handle_of_laid {W : World} (h : laidMetH Tryz.prog LL W) : As.Handle W := by
  obtain ⟨name, u, ty, e1, e2, e3, e4, e5⟩ := (split h).2 _ (List.mem_singleton.2 rfl)
  have en : name = [101, 114, 114, 111, 114] := (Option.some.inj e1).symm
  subst en
  obtain rfl := Option.some.inj (rt.symm.trans e2)
  have hm : ty ∈ (List.range 484).filter fun t => Tryz.prog.rowNamed t [101, 114, 114, 111, 114] := List.mem_filter.2 ⟨List.mem_range.2 (Nat.lt_of_lt_of_le e3 size), e4⟩
  rw [oneRow] at hm
  obtain rfl := List.mem_singleton.1 hm
  have hh : typeHandle Tryz.prog 118 = .pointer (some ⟨As.HB, As.ERR, none⟩) := by kernel_rfl
  rw [hh] at e5
  unfold As.Handle
  simpa using World.var?_cell et e5 0
theorem var_of_laid {W : World} (h : laidMetH Tryz.prog LL W) : ∃ a : Addr, W.var? Tryz.prog NVN = some #[.iface 355 (.pointer (some a))] := by
  obtain ⟨a, s, hv, _, _, _⟩ := laid_sentinel (L1b.met_tail (L1b.met_tail (L1b.met_tail (split h).1))) nvg nvType Tryz.underlying118 rowES Tryz.underlying355 Tryz.underlying374 rfl rfl Tryz.underlying9 cellsES cellsStr
  exact ⟨a, hv⟩
theorem notv_of_var {W : World} {a : Addr} (h : W.var? Tryz.prog NVN = some #[.iface 355 (.pointer (some a))]) : Tk.NotV W := ⟨some a, by simpa using World.var?_cell nvg h 0⟩
theorem var_below {W W' : World} {n : String} {cs : Array Value} (h : W.var? Tryz.prog n = some cs) (hb : Below W.heap.size W W') : W'.var? Tryz.prog n = some cs := by
  unfold World.var? at h ⊢
  cases hg : Tryz.prog.globalNamed n with
  | none => simp [hg] at h
  | some g =>
    simp only [hg, Option.bind_some] at h ⊢
    have hlt : g < W.heap.size := by
      rcases Nat.lt_or_ge g W.heap.size with h' | h'
      · exact h'
      · simp [Array.getElem?_eq_none h'] at h
    rw [hb.block g hlt]
    exact h
theorem law_post1 {H : Type} {enc : TypeId × Value → H} {f : Func} {s : ChangeSpec} {W W' : World} {args : Array Value} {ds : List (DataW H)} {before : List MemPlace} {tb : TypeId} {x : Value}
    (hr : ∀ t ∈ f.params.toList, Tryz.prog.readableRec t = true ∧ t < Tryz.prog.types.size)
    (hW : DataW.Whole enc Tryz.prog f.params.toList s.vars false W args.toList ds [tok enc x] before) (hv : s.vars = [NVN]) (hrt : f.resultTypes = #[tb]) (hbool : Tryz.prog.underlying tb = some .bool)
    (hx : W.var? Tryz.prog NVN = some #[x]) (ix : IsIface x)
    (e1 : (s.fn H (ds ++ [tok enc x])).results = [.lit (.bool true)]) (e2 : (s.fn H (ds ++ [tok enc x])).args = ds) (e3 : (s.fn H (ds ++ [tok enc x])).vars = [tok enc x]) (hb : Below W.heap.size W W') :
    s.post enc Tryz.prog f false true false false W args (.bool true) W' := by
  have hlt : ∀ x ∈ before, x.block < W.heap.size := fun x hx => hW.lt x hx
  obtain ⟨p, q, hA, hV, hpq, _, _⟩ := id hW
  refine ⟨ds, [tok enc x], before, [], p, [.cell 0 0], hW, ?_, ?_, ?_, hb.frame _, fun h => by cases h⟩
  · rw [e1, hrt]
    exact trodAll_mk1 (shut_bool hbool _)
  · rw [e2]
    exact trodAll_below laidOut hb hr hA (fun x hx => hlt x (by rw [hpq]; exact List.mem_append_left _ hx))
  · rw [e3, hv]
    exact vars_read1 enc nvg nvType Tryz.underlying118 (var_below hx hb) ix _
noncomputable def low : Nat := (World.holding Tryz.prog default ⟨#[], #[], []⟩).heap.size
abbrev text : ByteArray := { data := #[116, 104, 101, 32, 115, 121, 110, 116, 97, 120, 32, 105, 115, 32, 114, 105, 103, 104, 116, 44, 32, 98, 117, 116, 32, 116, 104, 101, 32, 114, 101, 115, 117, 108, 116, 32, 105, 115, 32, 110, 111, 116, 32, 118, 97, 108, 105, 100] }
def f0 : DataW Unit → List Value
  | .lit (.int k n) => [.int k n]
  | _ => []
def f1 : DataW Unit → List Value
  | .agg l => l.flatMap f0
  | d => f0 d
def lay (h : Array Obj) (x : Nat × DataW Unit) : Array Obj := h.modify x.1 fun
  | .cells _ t frozen => .cells (f1 x.2).toArray t frozen
  | o => o
noncomputable def laidWorld (os : Os) : World :=
  let w0 := World.holding Tryz.prog os ⟨#[.cells #[.string text] 374], #[], []⟩
  let h1 := [(4, Rows.laid_math_bits_deBruijn32tab), (5, Rows.laid_math_bits_deBruijn64tab), (3, Rows.laid_internal_strconv_uint64pow10)].foldl lay w0.heap
  { w0 with heap := (h1.modify 0 fun
      | .cells _ t frozen => .cells #[.iface 355 (.pointer (some ⟨low, 0, none⟩))] t frozen
      | o => o).modify 1 fun
      | .cells _ t frozen => .cells #[.iface 295 (.agg #[.pointer (some ⟨As.HB, As.ERR, none⟩)])] t frozen
      | o => o }
end Go.Proofs.YtjglllpemhkkdaaGreatDoor.La
