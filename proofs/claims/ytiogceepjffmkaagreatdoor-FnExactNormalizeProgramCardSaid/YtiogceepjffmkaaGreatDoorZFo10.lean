/- The program's FormatStmts by its contract. -/
import Derived.Test.YtiogceepjffmkaaGreatDoorZFn10
import Derived.Test.YtiogceepjffmkaaGreatDoorZXi
import Derived.ProofKit
import Derived.OpenShut
import Derived.Deep.Strs
import Derived.Carry
import Derived.Below
import Derived.ChangeSame
set_option maxHeartbeats 8000000
set_option maxRecDepth 100000
namespace Go.Proofs.YtiogceepjffmkaaGreatDoor.Gp
open Go.RowKit Go.Lib Go.Sort Com Mem Ow YtiogceepjffmkaaGreatDoor.Os Tr Tk Im Ag Pl Kd Gs Gd
theorem own_rowG {e lo : Nat} {w : World} {v : Value} {xs : List Value} (h : w.ownsRow lo e 1 v xs.length xs) : Os.Own e lo w.heap.size w v xs := by
  rcases h.2 with ⟨hv, hn⟩ | ⟨g, c, cur, hv, hb, hblk, hnc, hcm, _, ht⟩
  · have hx := List.eq_nil_of_length_eq_zero hn
    subst hx
    exact ⟨none, 0, [], hv, Nat.le_refl _, Nat.zero_le _, fun _ => ⟨rfl, rfl⟩, (fun ad e => by cases e), rfl⟩
  · refine ⟨some ⟨g, 0, none⟩, c, cur.toList, hv, hnc, hcm, (fun e => by cases e), (fun ad e => ?_), by simpa using ht⟩
    cases e
    exact ⟨rfl, hb, (Array.getElem?_eq_some_iff.1 hblk).1, by unfold Blk; rw [Array.toArray_toList]; exact hblk⟩
theorem tJ_mem {L : List St} {m : Nat} {t : St} (h : L[m]? = some t) : (tSt t).length ≤ (tJ L).length := by
  obtain ⟨hm, rfl⟩ := List.getElem?_eq_some_iff.1 h
  have := tJ_le hm
  omega
theorem iformatL (A : Option Addr) (c : Nat) (L : List St) (w : World) (h : LA (pln w) w.heap.size ⟨A, c, L⟩) (hs : shbL L) (hp : L1b.Pow w) (hc : cntL L ≤ 1100000) (hl : (tJ L).length ≤ 100000000000) :
    Calls Tryz.prog 11 #[.slice A L.length c] w fun e w' => ∃ v, e = .returned v ∧ Grow 9 w w' v ((tL L).map sv) := by
  have hln := len_cntL L
  have hnode := hid (fun (m : Nat) (t : St) (hm : L[m]? = some t) (W : World) (hW : Below w.heap.size w W) => la_node h hW hm)
  have hfm := hid (fun (m : Nat) (t : St) (hm : L[m]? = some t) v0 v1 v2 v3 v4 v5 v6 v7 (W : World) (hr : RdN (pln W) W.heap.size [v0, v1, v2, v3, v4, v5, v6, v7] t) (hW : Below w.heap.size w W) => iformat1 t v0 v1 v2 v3 v4 v5 v6 v7 W hr (shbL_get hs hm) (hp.below hW) (by have := cntSt_mem (List.mem_of_getElem? hm); omega) (by have := tJ_mem hm; omega))
  obtain ⟨n, hn⟩ : ∃ n, L.length = n := ⟨_, rfl⟩
  rw [hn] at hln ⊢
  replace hn := hid hn
  clear h hs hp hl
  go_enter Tryz.func11, Tryz.ntmps11
  go_wp2_with fail
  go_loopw [8, 3] (fun i v wr => ∃ m : Nat, m ≤ n ∧ i = .int .i64 (m : Nat) ∧ Grow 9 w wr v ((tL (L.take m)).map sv)) (fun i _ _ => n - (Go.RowKit.intOf i).toNat)
  case atStart => exact ⟨0, Nat.zero_le _, rfl, by simpa [tL] using Grow.nil_ w 9 (Below.refl _ _)⟩
  case round =>
    obtain ⟨m, hm, rfl, hG⟩ := hrel
    by_cases hlt : m < n
    · obtain ⟨t, ht⟩ : ∃ t, L[m]? = some t := ⟨_, List.getElem?_eq_getElem (by rw [hn.out]; exact hlt)⟩
      obtain ⟨ad, nk, ns, ek, en, es, nA, nl, nc, qA, ql, qc, oA, ol, oc, hA, hld, hrd⟩ := hnode.out m t ht wr hG.2
      have hA : A = some ad := hA
      subst hA
      obtain ⟨p0, p1, p2, p3, p4, p5, p6, p7⟩ := ldC_at hld
      have t1 : (m : Int) < (n : Int) := by omega
      have hbx := box_below wr (.cells #[.int .i64 nk, sv ns, .int .i64 ek, .int .i64 en, sv es, .slice nA nl nc, .slice qA ql qc, .slice oA ol oc] 60)
      have hBx := hid (Blk.new wr 60 [.int .i64 nk, sv ns, .int .i64 ek, .int .i64 en, sv es, .slice nA nl nc, .slice qA ql qc, .slice oA ol oc])
      have hG2 := hG.below hbx (Nat.le_refl _)
      have hcl := hid (hfm.out m t ht _ _ _ _ _ _ _ _ _ (rdN_go hrd hG2.2) hG2.2)
      have hst := hid (show (tL (L.take (m + 1))).map sv = (tL (L.take m)).map sv ++ [sv (tSt t)] by
        rw [List.take_add_one, ht]; simp [tL])
      have hq : ((tL (L.take m)).map sv).length < 1000000000000 := by have := List.length_take_le m L; rw [List.length_map, tL_len]; omega
      obtain ⟨k0, k1, k2, k3, k4, k5, k6, k7⟩ := eight hBx.out
      replace hG2 := hid hG2
      generalize tSt t = x at *
      clear hG hld hrd hbx
      go_wp2_with fail
      generalize (wr.alloc (.cells #[.int .i64 nk, sv ns, .int .i64 ek, .int .i64 en, sv es, .slice nA nl nc, .slice qA ql qc, .slice oA ol oc] 60)) = w1 at *
      refine hcl.out.mono ?_
      rintro e2 w2 ⟨rfl, hb2⟩
      have hG3 := hid (hG2.out.below hb2 (Nat.le_refl _))
      clear hb2 hcl k0 k1 k2 k3 k4 k5 k6 k7 p0 p1 p2 p3 p4 p5 p6 p7 hG2
      go_wp2_with (at_builtin; refine hG3.out.append strT (sv x) rfl hq rfl _ _ rfl rfl rfl ?_; intro v5 w5 hG5 _ _; replace hG5 := hid hG5)
      exact ⟨⟨m + 1, hlt, by go_num, by rw [hst.out]; exact hG5.out⟩, by simp [Go.RowKit.intOf]; omega⟩
    · obtain rfl : m = n := by omega
      have hfin := hid (show tL (L.take m) = tL L by rw [List.take_of_length_le (by rw [hn.out]; exact Nat.le_refl _)])
      replace hG := hid hG
      go_wp2_with fail
      go_ret
      exact ⟨_, rfl, by rw [← hfin.out]; exact hG.out⟩
theorem sh_shb {L : List St} : shL L → shbL L := by
  have hs : ∀ L : List St, (∀ a ∈ L, shSt a → shbSt a) → shL L → shbL L := fun L hL => by
    induction L with
    | nil => intro _; exact shbL_nil
    | cons b r ih =>
      intro h
      rw [shL] at h
      rw [shbL]
      exact ⟨hL b (by simp) h.1, ih (fun a ha => hL a (by simp [ha])) h.2⟩
  have key : ∀ t : St, shSt t → shbSt t := fun t => by
    induction t using St.ind with
    | h k s e bs es h1 h2 =>
      intro h
      rw [shSt_mk] at h
      rw [shbSt]
      exact ⟨by have := h.1; omega, hs bs h1 h.2.1, hs es h2 h.2.2⟩
  exact hs L fun a _ => key a
theorem join_jn : ∀ l : List (List UInt8), Lib.join l [32] = Gd.jn l
  | [] => rfl
  | [x] => by rw [C1j.join_jl]; rfl
  | x :: y :: r => by
    have h := join_jn (y :: r)
    rw [C1j.join_jl] at h ⊢
    show x ++ [32] ++ C1j.jl [32] (y :: r) = x ++ 32 :: Gd.jn (y :: r)
    rw [h]; simp
theorem ijoin_rd (A : Option Addr) (c : Nat) (l : List (List UInt8)) (w : World) (h : Rd w w.heap.size A (l.map sv)) (hA : ∀ ad, A = some ad → ad = ⟨ad.block, 0, none⟩) (hl : l.length ≤ c) (hm : l.length ≤ 140737488355328) (hj : (Gd.jn l).length ≤ 140737488355328) :
    Calls Tryz.prog 24 #[.slice A l.length c, .string ⟨#[32]⟩] w fun e w' => e = .returned (.string ⟨(Gd.jn l).toArray⟩) ∧ Below w.heap.size w w' := by
  have hcall : Hid (Calls Tryz.prog 58 #[.slice A l.length c, .string ⟨#[32]⟩] w fun e w' => e = .returned (.string ⟨(Gd.jn l).toArray⟩) ∧ Below w.heap.size w w') := hid (by
    by_cases h0 : l = []
    · subst h0
      refine (Tryz.strings_Join_none A c ⟨#[32]⟩ w).mono ?_
      rintro e w' ⟨rfl, rfl⟩
      exact ⟨rfl, Below.refl _ _⟩
    · obtain ⟨ad, rfl, hb, hcell⟩ := h (by simpa using h0)
      obtain ⟨g, rfl⟩ : ∃ g, ad = ⟨g, 0, none⟩ := ⟨_, hA ad rfl⟩
      have hmap : (l.map fun x : List UInt8 => (⟨x.toArray⟩ : ByteArray)).map (·.data.toList) = l := by
        rw [List.map_map]; conv => rhs; rw [← List.map_id l]
        exact List.map_congr_left fun x _ => rfl
      have hq := Tryz.strings_Join g 0 c (l.map fun x => ⟨x.toArray⟩) ⟨#[32]⟩ w (fun j x hx => by
        rw [Nat.zero_add]
        have := hcell j (.string x) (by
          rw [List.getElem?_map] at hx ⊢
          cases hq : l[j]? with
          | none => rw [hq] at hx; cases hx
          | some y => rw [hq] at hx; cases hx; rfl)
        rwa [add_zero] at this) hb (by simpa using hm) (by simpa using hl) (by rw [hmap]; show (Lib.join l [32]).length ≤ _; rw [join_jn]; exact hj)
      rw [hmap, List.length_map] at hq
      rw [show Lib.join l (⟨#[32]⟩ : ByteArray).data.toList = Gd.jn l from join_jn l] at hq
      exact hq)
  go_enter Tryz.func24, Tryz.ntmps24
  go_wp2_with fail
  refine hcall.out.mono ?_
  rintro e w' ⟨rfl, hb⟩
  go_wp2_with fail
  go_ret
  exact ⟨rfl, hb⟩
theorem ijoin_own {lo hi : Nat} {v : Value} {l : List (List UInt8)} (w : World) (h : OwnS lo hi w v l) (hm : l.length ≤ 140737488355328) (hj : (Gd.jn l).length ≤ 140737488355328) :
    Calls Tryz.prog 24 #[v, .string ⟨#[32]⟩] w fun e w' => e = .returned (.string ⟨(Gd.jn l).toArray⟩) ∧ Below w.heap.size w w' := by
  obtain ⟨A, c, rfl, hr, hc, _, _, hA⟩ := h.read_
  exact ijoin_rd A c l w hr hA hc hm hj
theorem jn_len {m : Nat} : ∀ l : List (List UInt8), (∀ x ∈ l, x.length ≤ m) → (Gd.jn l).length ≤ (m + 1) * l.length
  | [], _ => by simp [Gd.jn]
  | [x], h => by have := h x (by simp); simp [Gd.jn]; omega
  | x :: y :: r, h => by
    have h1 := jn_len (y :: r) fun z hz => h z (by simp [hz])
    have h2 := h x (by simp)
    simp only [Gd.jn, List.length_append, List.length_cons, Nat.mul_add, Nat.mul_one] at h1 ⊢
    omega
theorem iformatP (p : Pg) (w : World) (A : Option Addr) (c : Nat) (Bb : Option Addr) (cb : Nat) (hr : Rd w w.heap.size A (p.vs.map sv)) (hA : ∀ ad, A = some ad → ad = ⟨ad.block, 0, none⟩) (hc : p.vs.length ≤ c) (hV : p.vs.length ≤ maxI) (hVs : ∀ x ∈ p.vs, x.length ≤ maxI)
    (hla : LA (pln w) w.heap.size ⟨Bb, cb, p.body⟩) (hcn : cntL p.body ≤ 4000000) (hex : exL p.body ≤ 1048576) (hp : L1b.Pow w) :
    Calls Tryz.prog 8 #[.agg #[.slice A p.vs.length c, .slice Bb p.body.length cb]] w fun e w' => e = .returned (.string ⟨(fmtP p).toArray⟩) ∧ Below w.heap.size w w' := by
  have b1 := box_below w (.cells #[.slice A p.vs.length c, .slice Bb p.body.length cb] PI)
  have bx := hid (Blk.new w PI [.slice A p.vs.length c, .slice Bb p.body.length cb])
  have hv := hid (Sr.ivalidP p _ A c Bb cb ((hr.below b1).more b1.size) hA hV hVs (la_mono hla b1) hcn hex)
  have hb1 := hid b1
  by_cases hok : okP p = true
  · obtain ⟨hraw, hasc⟩ := raw_nrm hok
    rw [hok] at hv
    have hok' := hok
    unfold okP varsB at hok'
    simp only [Bool.and_eq_true, decide_eq_true_eq] at hok'
    obtain ⟨⟨hva, hv2, -⟩, hc8, -, hoks⟩ := hok'
    have hv8 : ∀ x ∈ p.vs, x.length ≤ 8 := fun x hx => by
      have := List.all_eq_true.1 hva x hx
      unfold C2.validB at this
      simp only [Bool.and_eq_true, decide_eq_true_eq] at this
      exact this.1
    have hsh := ok_short hv8 p.body hoks
    have htj := tJ_len p.body hsh
    have hjv := jn_len (m := 8) p.vs hv8
    have hl8 := len_cntL p.body
    have hjb := jn_len (m := 4000) (tL p.body) (fun x hx => by
      obtain ⟨t, ht, rfl⟩ := List.mem_map.1 hx
      obtain ⟨j, hj⟩ := List.mem_iff_getElem?.1 ht
      have := tJ_mem hj
      omega)
    rw [tL_len] at hjb
    have htl : (tL p.body).length ≤ 8 := by rw [tL_len]; omega
    have l1 : (Gd.jn p.vs).length ≤ 1000 := by omega
    have l2 : (Gd.jn (tL p.body)).length ≤ 100000 := by omega
    have hrl : (rawP p.vs p.body).length ≤ 100000 := by unfold rawP; simp only [List.length_append, List.length_cons, List.length_nil]; omega
    have cv := hid (fun W (hb : Below w.heap.size w W) => ijoin_rd A c p.vs W ((hr.below hb).more hb.size) hA hc (by omega) (by omega))
    have cf := hid (fun W (hb : Below w.heap.size w W) => show Calls Tryz.prog 11 #[.slice Bb p.body.length cb] W fun e w' => ∃ v, e = .returned v ∧ OwnS W.heap.size w'.heap.size w' v (tL p.body) ∧ Below W.heap.size W w' from
      (iformatL Bb cb p.body W (la_mono hla hb) (sh_shb hsh) (hp.below hb) (by omega) (by omega)).mono fun e w' ⟨v, e1, hG⟩ => ⟨v, e1, own_rowG hG.1, hG.2⟩)
    have cj := hid (fun W lo hi v (h : OwnS lo hi W v (tL p.body)) => ijoin_own W h (by omega) (by omega))
    have hra : (⟨#[118, 97, 114, 115, 32]⟩ ++ ⟨(Gd.jn p.vs).toArray⟩ ++ ⟨#[32, 59, 32]⟩ ++ ⟨(Gd.jn (tL p.body)).toArray⟩ : ByteArray) = ⟨(rawP p.vs p.body).toArray⟩ := by
      rw [show (⟨#[118, 97, 114, 115, 32]⟩ : ByteArray) = ⟨[118, 97, 114, 115, 32].toArray⟩ from rfl, show (⟨#[32, 59, 32]⟩ : ByteArray) = ⟨[32, 59, 32].toArray⟩ from rfl, bapp, bapp, bapp]; rfl
    have cn := hid (fun W => inormS (rawP p.vs p.body) hasc (by omega) W)
    rw [← hra, hraw] at cn
    generalize tL p.body = tx at *
    generalize Gd.jn p.vs = jv at *
    generalize Gd.jn tx = jb at *
    generalize fmtP p = res at *
    have z1 : (⟨#[118, 97, 114, 115, 32]⟩ : ByteArray).size = 5 := rfl
    have z2 : (⟨#[32, 59, 32]⟩ : ByteArray).size = 3 := rfl
    have z3 : (⟨jv.toArray⟩ : ByteArray).size = jv.length := by show jv.toArray.size = _; rw [List.size_toArray]
    have z4 : (⟨jb.toArray⟩ : ByteArray).size = jb.length := by show jb.toArray.size = _; rw [List.size_toArray]
    have a1 := fun W => run_string_add_sum (P := Tryz.prog) W ⟨#[118, 97, 114, 115, 32]⟩ ⟨jv.toArray⟩ (by rw [z1, z3]; omega)
    have a2 := fun W => run_string_add_sum (P := Tryz.prog) W (⟨#[118, 97, 114, 115, 32]⟩ ++ ⟨jv.toArray⟩) ⟨#[32, 59, 32]⟩ (by rw [ByteArray.size_append, z1, z2, z3]; omega)
    have a3 := fun W => run_string_add_sum (P := Tryz.prog) W (⟨#[118, 97, 114, 115, 32]⟩ ++ ⟨jv.toArray⟩ ++ ⟨#[32, 59, 32]⟩) ⟨jb.toArray⟩ (by rw [ByteArray.size_append, ByteArray.size_append, z1, z2, z3, z4]; omega)
    clear z1 z2 z3 z4 l1 l2
    generalize p.vs.length = N at *
    generalize p.body.length = M at *
    clear hr hA hc hV hVs hla hcn hex hp b1 hok hraw hasc hva hv2 hc8 hoks hv8 hsh htj hjv hl8 hjb htl hrl hra
    go_enter Tryz.func8, Tryz.ntmps8
    obtain ⟨q0, q1⟩ := two bx.out
    go_wp2_with fail
    refine hv.out.mono ?_
    rintro e w2 ⟨rfl, hb⟩
    have bW := hid (hb1.out.trans (hb.mono hb1.out.size)).drew
    have bx := hid (bx.out.below hb bx.out.lt)
    clear hb q0 q1 hv hb1
    obtain ⟨q0, q1⟩ := two bx.out
    have bx := hid (bx.out.below (Below.refl w2.heap.size w2).drew bx.out.lt)
    go_wp2_with fail
    have q := two bx.out
    go_region_held3 (fun w' => w'.cell? ⟨w.heap.size, 0, none⟩ = some (.slice A N c) ∧ w'.cell? ⟨w.heap.size, 1, none⟩ = some (.slice Bb M cb)) (first | (exact q) | go_keep)
      (first
      | (go_at_call 24; refine (cv.out _ (by first | exact bW.out | exact bW.out.drew)).mono ?_; rintro e w5 ⟨rfl, hb⟩; have bx := hid (bx.out.below hb bx.out.lt); have q := two bx.out; have bW := hid (bW.out.trans (hb.mono bW.out.size)); try (have oT := hid (oT.out.same (same_below hb (by omega)))))
      | (go_at_call 11; refine (cf.out _ (by first | exact bW.out | exact bW.out.drew)).mono ?_; rintro e w5 ⟨v, rfl, oT, hb⟩; have oT := hid oT; have bx := hid (bx.out.below hb bx.out.lt); have q := two bx.out; have bW := hid (bW.out.trans (hb.mono bW.out.size)))
      | (go_at_call 24; refine (cj.out _ _ _ _ oT.out).mono ?_; rintro e w5 ⟨rfl, hb⟩; have bx := hid (bx.out.below hb bx.out.lt); have q := two bx.out; have bW := hid (bW.out.trans (hb.mono bW.out.size)))
      | (go_at_call 23; refine (cn.out _).mono ?_; rintro e w5 ⟨rfl, hb⟩; have bx := hid (bx.out.below hb bx.out.lt); have q := two bx.out; have bW := hid (bW.out.trans (hb.mono bW.out.size))))
    all_goals
      go_wp2_with fail
      go_ret
      exact ⟨rfl, bW.out⟩
  · rw [show okP p = false by simpa using hok] at hv
    have hf : fmtP p = [] := by unfold fmtP; rw [if_neg hok]
    rw [hf]
    clear hr hA hc hV hVs hla hcn hex hp b1 hok hf
    go_enter Tryz.func8, Tryz.ntmps8
    obtain ⟨q0, q1⟩ := two bx.out
    go_wp2_with fail
    refine hv.out.mono ?_
    rintro e w2 ⟨rfl, hb⟩
    have bW := hid (hb1.out.trans (hb.mono hb1.out.size))
    clear hb q0 q1 hv hb1
    go_wp2_with fail
    go_ret
    exact ⟨rfl, bW.out⟩
end Go.Proofs.YtiogceepjffmkaaGreatDoor.Gp
set_option maxRecDepth 100000
namespace Go.Proofs.YtiogceepjffmkaaGreatDoor.Close
open Mem
open Go.ChangeShapes Go.WideShapes Go.ChangeAt Go.RowKit
theorem own : ownKnob Tryz.prog.godebug = none := by kernel_rfl
theorem str_eta (a : ByteArray) : (⟨a.data.toList.toArray⟩ : ByteArray) = a := by cases a; simp
theorem str_len {a : ByteArray} (h : a.size ≤ maxLen) : a.data.toList.length ≤ 9223372036854775807 := by
  have e : a.data.toList.length = a.size := by rw [Array.length_toList]; rfl
  unfold maxLen at h; omega
theorem cellsStr : Tryz.prog.cellsOf 9 = 1 := by kernel_rfl
theorem laidOut : laidOutB Tryz.prog = true := by kernel_rfl
section
variable {H : Type} {enc : TypeId × Value → H} {P : Program}
theorem trodAll_below (hl : laidOutB P = true) {W W' : World} (hb : Below W.heap.size W W') : ∀ {ts : List TypeId} {vs : List Value} {ds : List (DataW H)} {ps : List MemPlace}, (∀ t ∈ ts, P.readableRec t = true ∧ t < P.types.size) →
    DataW.TrodAll enc P W 0 (fun _ => true) true ts vs ds ps → (∀ x ∈ ps, x.block < W.heap.size) → DataW.TrodAll enc P W' 0 (fun b => decide (b < W.heap.size)) true ts vs ds ps
  | [], [], [], _, _, h, _ => h
  | t :: ts, v :: vs, d :: ds, ps, hr, h, hlt => by
    obtain ⟨p, q, h1, h2, rfl⟩ := h
    exact ⟨p, q, Below.trod hl (hr t List.mem_cons_self).1 (hr t List.mem_cons_self).2 h1 hb (fun x hx => hlt x (List.mem_append_left _ hx)),
      trodAll_below hl hb (fun t ht => hr t (List.mem_cons_of_mem _ ht)) h2 (fun x hx => hlt x (List.mem_append_right _ hx)), rfl⟩
  | [], _ :: _, _, _, _, h, _ => h.elim
  | [], [], _ :: _, _, _, h, _ => h.elim
  | _ :: _, [], _, _, _, h, _ => h.elim
  | _ :: _, _ :: _, [], _, _, h, _ => h.elim
end
end Go.Proofs.YtiogceepjffmkaaGreatDoor.Close
