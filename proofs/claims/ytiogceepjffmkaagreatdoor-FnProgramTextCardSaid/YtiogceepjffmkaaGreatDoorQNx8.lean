/- What a drawn list of statements holds: nodes of expressions and bytes of names. -/
import Derived.Test.YtiogceepjffmkaaGreatDoorQDr16
import Derived.Test.YtiogceepjffmkaaGreatDoorQP9g
import Derived.Test.YtiogceepjffmkaaGreatDoorQC9a
set_option maxHeartbeats 8000000
set_option maxRecDepth 100000
namespace Go.Proofs.YtiogceepjffmkaaGreatDoor.Gd
open Go.RowKit Go.Lib Go.Sort Com Mem YtiogceepjffmkaaGreatDoor.Os Tr Tk
theorem tJ_nx (L : List St) : (tJ L).length ≤ 500 * cntL L + nxL L := by
 have sub : ∀ L : List St, (∀ a ∈ L, (tSt a).length + 1 ≤ 500 * cntSt a + nxSt a) → (tJ L).length ≤ 500 * cntL L + nxL L := fun L h => by
  induction L with
  | nil => simp [tJ]
  | cons a r ih =>
   have g1 := h a (by simp)
   have g2 := ih fun b hb => h b (by simp [hb])
   rw [tJ]
   simp only [cntL, nxL, List.length_cons, List.length_append] at g2 ⊢
   omega
 have key : ∀ t : St, (tSt t).length + 1 ≤ 500 * cntSt t + nxSt t := fun t => by
  induction t using St.ind with
  | h k s e bs es h1 h2 =>
   have g1 := sub bs h1
   have g2 := sub es h2
   have hx := fmtX_len e
   rw [tSt_mk, nxSt_mk, cntSt]
   unfold tB
   split
   ·simp only [List.length_append, List.length_cons, List.length_nil]; omega
   ·split
    ·simp only [List.length_append, List.length_cons, List.length_nil]; omega
    ·split
     ·simp only [List.length_append, List.length_cons, List.length_nil]; omega
     ·split
      ·split
       ·simp only [List.length_append, List.length_cons, List.length_nil]; omega
       ·simp only [List.length_append, List.length_cons, List.length_nil]; omega
      ·simp only [List.length_cons, List.length_nil]; omega
 exact sub L fun a _ => key a
open Gp Cur Ow Dr Pl Gs
theorem shbL_nx {L : List St} : nxL L ≤ 1000000000 → shbL L := by
 have hs : ∀ L : List St, (∀ a ∈ L, nxSt a ≤ 1000000000 → shbSt a) → nxL L ≤ 1000000000 → shbL L := fun L hL => by
  induction L with
  | nil => intro _; exact shbL_nil
  | cons a r ih =>
   intro h
   simp only [nxL] at h
   rw [shbL]
   exact ⟨hL a (by simp) (by omega), ih (fun b hb => hL b (by simp [hb])) (by omega)⟩
 have key : ∀ t : St, nxSt t ≤ 1000000000 → shbSt t := fun t => by
  induction t using St.ind with
  | h k s e bs es h1 h2 =>
   intro h
   rw [nxSt_mk] at h
   rw [shbSt]
   exact ⟨by omega, hs bs h1 (by omega), hs es h2 (by omega)⟩
 exact hs L fun a _ => key a
theorem drawFormat10 (A : Option Addr) (c : Nat) (xs : List UInt8) (w : World) (hr : Rd w w.heap.size A (xs.map bv)) (hn : xs.length ≤ 1048576) :
  Calls Tryz.prog 7 #[.slice A xs.length c] w fun e w' => ∃ v V L, e = .returned v ∧ PgOut w' w.heap.size v V L ∧ V.length ≤ 3 ∧ (∀ s ∈ V, s.length ≤ 9) ∧ cntL L ≤ 200 ∧ nxL L ≤ 5000 ∧ Below w.heap.size w w' := by
 have hb0 := box_below w (.cells #[.slice none 0 0, .slice none 0 0] PI)
 have s0 := size_alloc' w (.cells #[.slice none 0 0, .slice none 0 0] PI)
 have h1 := hid (new_any A c xs _ ((hr.below hb0).more hb0.size) hn)
 have R0 := hid (Blk.new w PI [.slice none 0 0, .slice none 0 0])
 replace hb0 := hid hb0
 clear hr hn
 go_enter Tryz.func7, Tryz.ntmps7
 go_wp2_with fail
 generalize (w.alloc (.cells #[.slice none 0 0, .slice none 0 0] PI)) = W0 at *
 refine h1.out.mono ?_
 rintro e w1 ⟨g, hg, rfl, hc, hb⟩
 have R1 := hid (R0.out.below hb (by omega))
 have B1 := hid (hb0.out.trans (hb.mono (by omega)))
 have s1 := hb.size
 clear hb
 go_wp2_with fail
 refine (bent8 g A c xs w1 hc).mono ?_
 rintro e w2 ⟨v, V, L, rfl, hO, n1, n2, n3, n4, hd⟩
 obtain ⟨VA, vc, B, bc, rows, rfl, hO2⟩ := hO
 have hO : PgOut w2 w1.heap.size (.agg #[.slice VA V.length vc, .slice B L.length bc]) V L := ⟨VA, vc, B, bc, rows, rfl, hO2⟩
 have R2 := R1.out.gb hd.2 (by omega)
 have B2 := drew_below (by omega) B1.out hd
 have f1 := hid (putN_blk (.slice VA V.length vc :: [.slice B L.length bc]) 0 R2)
 have f2 := hid (hO.keep (h := w.heap.size) (lo' := w.heap.size) (by omega) (by omega) (put_gb [.slice VA V.length vc, .slice B L.length bc] w2 w.heap.size))
 have f3 := hid (putN_below [.slice VA V.length vc, .slice B L.length bc] 0 B2 (Nat.le_refl w.heap.size))
 obtain ⟨x0, x1⟩ := two R2
 have r0 := R2.frozen 0
 have r1 := R2.frozen 1
 clear hO hO2 hd B2 R2 hc
 go_wp2_with fail
 exact bodyPost_ret (results_cell_row Tryz.results7 _ _ w.heap.size PI _ (0, 0) _ rfl f1.out Tryz.underlying27 rfl (by kernel_rfl)) rfl ⟨_, _, _, rfl, f2.out, n1, n2, n3, n4, f3.out⟩
end Go.Proofs.YtiogceepjffmkaaGreatDoor.Gd
set_option maxRecDepth 100000
namespace Go.Proofs.YtiogceepjffmkaaGreatDoor.Gp
open Go.RowKit Go.Lib Go.Sort Com Mem Ow YtiogceepjffmkaaGreatDoor.Os Tr Tk Im Ag Pl Kd Gs Gd
theorem sh_shb {L : List St} : shL L → shbL L := by
 have hs : ∀ L : List St, (∀ a ∈ L, shSt a → shbSt a) → shL L → shbL L := fun L hL => by
  induction L with
  | nil => intro _; exact shbL_nil
  | cons b r ih =>
   intro h
   rw [shL] at h
   rw [shbL]
   exact ⟨hL b (by simp) h.1, ih (fun a ha => hL a (by simp [ha])) h.2⟩
 have key : ∀ t : St, shSt t → shbSt t := fun t => by
  induction t using St.ind with
  | h k s e bs es h1 h2 =>
   intro h
   rw [shSt_mk] at h
   rw [shbSt]
   exact ⟨by have := h.1; omega, hs bs h1 h.2.1, hs es h2 h.2.2⟩
 exact hs L fun a _ => key a
theorem join_jn : ∀ l : List (List UInt8), Lib.join l [32] = Gd.jn l
 | [] => rfl
 | [x] => by rw [C1j.join_jl]; rfl
 | x :: y :: r => by
  have h := join_jn (y :: r)
  rw [C1j.join_jl] at h ⊢
  show x ++ [32] ++ C1j.jl [32] (y :: r) = x ++ 32 :: Gd.jn (y :: r)
  rw [h]; simp
theorem ijoin_rd (A : Option Addr) (c : Nat) (l : List (List UInt8)) (w : World) (h : Rd w w.heap.size A (l.map sv)) (hA : ∀ ad, A = some ad → ad = ⟨ad.block, 0, none⟩) (hl : l.length ≤ c) (hm : l.length ≤ 140737488355328) (hj : (Gd.jn l).length ≤ 140737488355328) :
  Calls Tryz.prog 24 #[.slice A l.length c, .string ⟨#[32]⟩] w fun e w' => e = .returned (.string ⟨(Gd.jn l).toArray⟩) ∧ Below w.heap.size w w' := by
 have hcall : Hid (Calls Tryz.prog 58 #[.slice A l.length c, .string ⟨#[32]⟩] w fun e w' => e = .returned (.string ⟨(Gd.jn l).toArray⟩) ∧ Below w.heap.size w w') := hid (by
  by_cases h0 : l = []
  ·subst h0
   refine (Tryz.strings_Join_none A c ⟨#[32]⟩ w).mono ?_
   rintro e w' ⟨rfl, rfl⟩
   exact ⟨rfl, Below.refl _ _⟩
  ·obtain ⟨ad, rfl, hb, hcell⟩ := h (by simpa using h0)
   obtain ⟨g, rfl⟩ : ∃ g, ad = ⟨g, 0, none⟩ := ⟨_, hA ad rfl⟩
   have hmap : (l.map fun x : List UInt8 => (⟨x.toArray⟩ : ByteArray)).map (·.data.toList) = l := by
    rw [List.map_map]; conv => rhs; rw [← List.map_id l]
    exact List.map_congr_left fun x _ => rfl
   have hq := Tryz.strings_Join g 0 c (l.map fun x => ⟨x.toArray⟩) ⟨#[32]⟩ w (fun j x hx => by
    rw [Nat.zero_add]
    have := hcell j (.string x) (by
     rw [List.getElem?_map] at hx ⊢
     cases hq : l[j]? with
     | none => rw [hq] at hx; cases hx
     | some y => rw [hq] at hx; cases hx; rfl)
    rwa [add_zero] at this) hb (by simpa using hm) (by simpa using hl) (by rw [hmap]; show (Lib.join l [32]).length ≤ _; rw [join_jn]; exact hj)
   rw [hmap, List.length_map] at hq
   rw [show Lib.join l (⟨#[32]⟩ : ByteArray).data.toList = Gd.jn l from join_jn l] at hq
   exact hq)
 go_enter Tryz.func24, Tryz.ntmps24
 go_wp2_with fail
 refine hcall.out.mono ?_
 rintro e w' ⟨rfl, hb⟩
 go_wp2_with fail
 go_ret
 exact ⟨rfl, hb⟩
theorem ijoin_own {lo hi : Nat} {v : Value} {l : List (List UInt8)} (w : World) (h : OwnS lo hi w v l) (hm : l.length ≤ 140737488355328) (hj : (Gd.jn l).length ≤ 140737488355328) :
  Calls Tryz.prog 24 #[v, .string ⟨#[32]⟩] w fun e w' => e = .returned (.string ⟨(Gd.jn l).toArray⟩) ∧ Below w.heap.size w w' := by
 obtain ⟨A, c, rfl, hr, hc, _, _, hA⟩ := h.read_
 exact ijoin_rd A c l w hr hA hc hm hj
theorem jn_len {m : Nat} : ∀ l : List (List UInt8), (∀ x ∈ l, x.length ≤ m) → (Gd.jn l).length ≤ (m + 1) * l.length
 | [], _ => by simp [Gd.jn]
 | [x], h => by have := h x (by simp); simp [Gd.jn]; omega
 | x :: y :: r, h => by
  have h1 := jn_len (y :: r) fun z hz => h z (by simp [hz])
  have h2 := h x (by simp)
  simp only [Gd.jn, List.length_append, List.length_cons, Nat.mul_add, Nat.mul_one] at h1 ⊢
  omega
theorem iformatP (p : Pg) (w : World) (A : Option Addr) (c : Nat) (Bb : Option Addr) (cb : Nat) (hr : Rd w w.heap.size A (p.vs.map sv)) (hA : ∀ ad, A = some ad → ad = ⟨ad.block, 0, none⟩) (hc : p.vs.length ≤ c) (hV : p.vs.length ≤ maxI) (hVs : ∀ x ∈ p.vs, x.length ≤ maxI)
  (hla : LA (pln w) w.heap.size ⟨Bb, cb, p.body⟩) (hcn : cntL p.body ≤ 4000000) (hex : exL p.body ≤ 1048576) (hp : L1b.Pow w) :
  Calls Tryz.prog 8 #[.agg #[.slice A p.vs.length c, .slice Bb p.body.length cb]] w fun e w' => e = .returned (.string ⟨(fmtP p).toArray⟩) ∧ Below w.heap.size w w' := by
 have b1 := box_below w (.cells #[.slice A p.vs.length c, .slice Bb p.body.length cb] PI)
 have bx := hid (Blk.new w PI [.slice A p.vs.length c, .slice Bb p.body.length cb])
 have hv := hid (Sr.ivalidP p _ A c Bb cb ((hr.below b1).more b1.size) hA hV hVs (la_mono hla b1) hcn hex)
 have hb1 := hid b1
 by_cases hok : okP p = true
 ·obtain ⟨hraw, hasc⟩ := raw_nrm hok
  rw [hok] at hv
  have hok' := hok
  unfold okP varsB at hok'
  simp only [Bool.and_eq_true, decide_eq_true_eq] at hok'
  obtain ⟨⟨hva, hv2, -⟩, hc8, -, hoks⟩ := hok'
  have hv8 : ∀ x ∈ p.vs, x.length ≤ 8 := fun x hx => by
   have := List.all_eq_true.1 hva x hx
   unfold C2.validB at this
   simp only [Bool.and_eq_true, decide_eq_true_eq] at this
   exact this.1
  have hsh := ok_short hv8 p.body hoks
  have htj := tJ_len p.body hsh
  have hjv := jn_len (m := 8) p.vs hv8
  have hl8 := len_cntL p.body
  have hjb := jn_len (m := 4000) (tL p.body) (fun x hx => by
   obtain ⟨t, ht, rfl⟩ := List.mem_map.1 hx
   obtain ⟨j, hj⟩ := List.mem_iff_getElem?.1 ht
   have := tJ_mem hj
   omega)
  rw [tL_len] at hjb
  have htl : (tL p.body).length ≤ 8 := by rw [tL_len]; omega
  have l1 : (Gd.jn p.vs).length ≤ 1000 := by omega
  have l2 : (Gd.jn (tL p.body)).length ≤ 100000 := by omega
  have hrl : (rawP p.vs p.body).length ≤ 100000 := by unfold rawP; simp only [List.length_append, List.length_cons, List.length_nil]; omega
  have cv := hid (fun W (hb : Below w.heap.size w W) => ijoin_rd A c p.vs W ((hr.below hb).more hb.size) hA hc (by omega) (by omega))
  have cf := hid (fun W (hb : Below w.heap.size w W) => show Calls Tryz.prog 11 #[.slice Bb p.body.length cb] W fun e w' => ∃ v, e = .returned v ∧ OwnS W.heap.size w'.heap.size w' v (tL p.body) ∧ Below W.heap.size W w' from
   (iformatL Bb cb p.body W (la_mono hla hb) (sh_shb hsh) (hp.below hb) (by omega) (by omega)).mono fun e w' ⟨v, e1, hG⟩ => ⟨v, e1, own_rowG hG.1, hG.2⟩)
  have cj := hid (fun W lo hi v (h : OwnS lo hi W v (tL p.body)) => ijoin_own W h (by omega) (by omega))
  have hra : (⟨#[118, 97, 114, 115, 32]⟩ ++ ⟨(Gd.jn p.vs).toArray⟩ ++ ⟨#[32, 59, 32]⟩ ++ ⟨(Gd.jn (tL p.body)).toArray⟩ : ByteArray) = ⟨(rawP p.vs p.body).toArray⟩ := by
   rw [show (⟨#[118, 97, 114, 115, 32]⟩ : ByteArray) = ⟨[118, 97, 114, 115, 32].toArray⟩ from rfl, show (⟨#[32, 59, 32]⟩ : ByteArray) = ⟨[32, 59, 32].toArray⟩ from rfl, bapp, bapp, bapp]; rfl
  have cn := hid (fun W => inormS (rawP p.vs p.body) hasc (by omega) W)
  rw [← hra, hraw] at cn
  generalize tL p.body = tx at *
  generalize Gd.jn p.vs = jv at *
  generalize Gd.jn tx = jb at *
  generalize fmtP p = res at *
  have z1 : (⟨#[118, 97, 114, 115, 32]⟩ : ByteArray).size = 5 := rfl
  have z2 : (⟨#[32, 59, 32]⟩ : ByteArray).size = 3 := rfl
  have z3 : (⟨jv.toArray⟩ : ByteArray).size = jv.length := by show jv.toArray.size = _; rw [List.size_toArray]
  have z4 : (⟨jb.toArray⟩ : ByteArray).size = jb.length := by show jb.toArray.size = _; rw [List.size_toArray]
  have a1 := fun W => run_string_add_sum (P := Tryz.prog) W ⟨#[118, 97, 114, 115, 32]⟩ ⟨jv.toArray⟩ (by rw [z1, z3]; omega)
  have a2 := fun W => run_string_add_sum (P := Tryz.prog) W (⟨#[118, 97, 114, 115, 32]⟩ ++ ⟨jv.toArray⟩) ⟨#[32, 59, 32]⟩ (by rw [ByteArray.size_append, z1, z2, z3]; omega)
  have a3 := fun W => run_string_add_sum (P := Tryz.prog) W (⟨#[118, 97, 114, 115, 32]⟩ ++ ⟨jv.toArray⟩ ++ ⟨#[32, 59, 32]⟩) ⟨jb.toArray⟩ (by rw [ByteArray.size_append, ByteArray.size_append, z1, z2, z3, z4]; omega)
  clear z1 z2 z3 z4 l1 l2
  generalize p.vs.length = N at *
  generalize p.body.length = M at *
  clear hr hA hc hV hVs hla hcn hex hp b1 hok hraw hasc hva hv2 hc8 hoks hv8 hsh htj hjv hl8 hjb htl hrl hra
  go_enter Tryz.func8, Tryz.ntmps8
  obtain ⟨q0, q1⟩ := two bx.out
  go_wp2_with fail
  refine hv.out.mono ?_
  rintro e w2 ⟨rfl, hb⟩
  have bW := hid (hb1.out.trans (hb.mono hb1.out.size)).drew
  have bx := hid (bx.out.below hb bx.out.lt)
  clear hb q0 q1 hv hb1
  obtain ⟨q0, q1⟩ := two bx.out
  have bx := hid (bx.out.below (Below.refl w2.heap.size w2).drew bx.out.lt)
  go_wp2_with fail
  have q := two bx.out
  go_region_held3 (fun w' => w'.cell? ⟨w.heap.size, 0, none⟩ = some (.slice A N c) ∧ w'.cell? ⟨w.heap.size, 1, none⟩ = some (.slice Bb M cb)) (first | (exact q) | go_keep)
   (first
   | (go_at_call 24; refine (cv.out _ (by first | exact bW.out | exact bW.out.drew)).mono ?_; rintro e w5 ⟨rfl, hb⟩; have bx := hid (bx.out.below hb bx.out.lt); have q := two bx.out; have bW := hid (bW.out.trans (hb.mono bW.out.size)); try (have oT := hid (oT.out.same (same_below hb (by omega)))))
   | (go_at_call 11; refine (cf.out _ (by first | exact bW.out | exact bW.out.drew)).mono ?_; rintro e w5 ⟨v, rfl, oT, hb⟩; have oT := hid oT; have bx := hid (bx.out.below hb bx.out.lt); have q := two bx.out; have bW := hid (bW.out.trans (hb.mono bW.out.size)))
   | (go_at_call 24; refine (cj.out _ _ _ _ oT.out).mono ?_; rintro e w5 ⟨rfl, hb⟩; have bx := hid (bx.out.below hb bx.out.lt); have q := two bx.out; have bW := hid (bW.out.trans (hb.mono bW.out.size)))
   | (go_at_call 23; refine (cn.out _).mono ?_; rintro e w5 ⟨rfl, hb⟩; have bx := hid (bx.out.below hb bx.out.lt); have q := two bx.out; have bW := hid (bW.out.trans (hb.mono bW.out.size))))
  all_goals
   go_wp2_with fail
   go_ret
   exact ⟨rfl, bW.out⟩
 ·rw [show okP p = false by simpa using hok] at hv
  have hf : fmtP p = [] := by unfold fmtP; rw [if_neg hok]
  rw [hf]
  clear hr hA hc hV hVs hla hcn hex hp b1 hok hf
  go_enter Tryz.func8, Tryz.ntmps8
  obtain ⟨q0, q1⟩ := two bx.out
  go_wp2_with fail
  refine hv.out.mono ?_
  rintro e w2 ⟨rfl, hb⟩
  have bW := hid (hb1.out.trans (hb.mono hb1.out.size))
  clear hb q0 q1 hv hb1
  go_wp2_with fail
  go_ret
  exact ⟨rfl, bW.out⟩
open Num
def normPV (S : List UInt8) : List UInt8 × Bool := match progR S with
 | .ok p => (fmtP p, true)
 | .error _ => ([], false)
theorem normP_ok {S : List UInt8} {p : Pg} (h : progR S = .ok p) : normPV S = (fmtP p, true) := by unfold normPV; rw [h]
theorem normP_err {S : List UInt8} {a : Int} (h : progR S = .error a) : normPV S = ([], false) := by unfold normPV; rw [h]
theorem iformatP_cnt {lo hi : Nat} {v : Value} {p : Pg} (w : World) (hp : L1b.Pow w) (h : OwnP lo hi w v p) (hc : cntL p.body ≤ 4000000) (hx : exL p.body ≤ 1048576) : Calls Tryz.prog 8 #[v] w fun e w' => e = .returned (sv (fmtP p)) ∧ Below w.heap.size w w' := by
 obtain ⟨cs, rfl, hr⟩ := h
 unfold Pg.d at hr
 cases hr with
 | ss hS hs _ _ r =>
  obtain ⟨A, c, rfl, hrd, hc1, hm1, _, hA⟩ := hS.read_
  obtain ⟨Bb, cb, rr, rows, rfl, hk, hl, hn⟩ := (own_plnD r).sl_
  obtain rfl := hn.nil_
  rw [dl_len] at *
  exact iformatP p w A c Bb cb hrd hA hc1 (by unfold maxLen at hm1; unfold maxI; omega) hs (la_row hk hl) hc hx hp
theorem inormPz_any (S : List UInt8) (hS : S.length ≤ 9223372036854775807) (w : World) (hnv : NotV w) (hh : As.Handle w) (hpw : L1b.Pow w) : Calls Tryz.prog 34 #[.string ⟨S.toArray⟩, .func (Fn.func 12) #[] #[], .func (Fn.func 8) #[] #[]] w fun e w' => e = .returned (.tuple #[sv (normPV S).1, .bool (normPV S).2]) ∧ Below w.heap.size w w' := by
 have hp := iprog_any S hS w hnv hh
 unfold ProgOk at hp
 have hpw := hid (fun w' (h : Below w.heap.size w w') => hpw.below h)
 rcases prog_off S with ⟨p, hR, hok, _, hc, hx⟩ | ⟨a, hR, h0, _⟩
 ·rw [progV_ok hR] at hp
  replace hp := hid hp
  rw [normP_ok hR]
  have hf := hid (fun lo hi v w hp (hv : OwnP lo hi w v p) => iformatP_cnt w hp hv (by omega) (by omega))
  generalize fmtP p = F at *
  dsimp only
  go_enter Tryz.func34, Tryz.ntmps34
  go_wp2_with fail
  refine hp.out.mono ?_
  rintro e w1 ⟨VA, vl, vc, A, l, cc, rfl, o1, hb⟩
  have b2 := box_below w1 (.cells #[.slice VA vl vc, .slice A l cc] PI)
  have B2 := hid (hb.trans (b2.mono hb.size))
  have bx := Blk.new w1 PI [.slice VA vl vc, .slice A l cc]
  obtain ⟨q0, q1⟩ := two bx
  replace hf := hid (hf.out _ _ _ _ (hpw.out _ B2.out) (o1.same (same_below b2 (Nat.le_refl _))))
  clear o1 hb b2 hp bx hpw
  go_wp2_with fail
  generalize (w1.alloc (.cells #[.slice VA vl vc, .slice A l cc] PI)) = w2 at *
  refine hf.out.mono ?_
  rintro e w3 ⟨rfl, hb⟩
  have B3 := hid (B2.out.trans (hb.mono B2.out.size))
  clear hb hf
  go_wp2_with fail
  go_ret2
  exact ⟨rfl, B3.out⟩
 ·rw [progV_err hR] at hp
  replace hp := hid hp
  rw [normP_err hR]
  have t1 : decide (0 ≤ a) = true := decide_eq_true h0
  dsimp only
  go_enter Tryz.func34, Tryz.ntmps34
  go_wp2_with fail
  refine hp.out.mono ?_
  rintro e w1 ⟨VA, vl, vc, A, l, cc, rfl, o1, hb⟩
  have b2 := box_below w1 (.cells #[.slice VA vl vc, .slice A l cc] PI)
  have B2 := hid (hb.trans (b2.mono hb.size))
  clear o1 hb b2 hp hpw
  go_wp2_with fail
  go_ret2
  exact ⟨rfl, B2.out⟩
theorem inormP_any (S : List UInt8) (hS : S.length ≤ 9223372036854775807) (w : World) (hnv : NotV w) (hh : As.Handle w) (hpw : L1b.Pow w) : Calls Tryz.prog 14 #[.string ⟨S.toArray⟩] w fun e w' => e = .returned (.tuple #[sv (normPV S).1, .bool (normPV S).2]) ∧ Below w.heap.size w w' := by
 have hc := hid (inormPz_any S hS w hnv hh hpw)
 generalize normPV S = v at *
 go_enter Tryz.func14, Tryz.ntmps14
 go_wp2_with fail
 refine hc.out.mono ?_
 rintro e w1 ⟨rfl, hb⟩
 replace hb := hid hb
 go_wp2_with fail
 go_ret2
 exact ⟨rfl, hb.out⟩
end Go.Proofs.YtiogceepjffmkaaGreatDoor.Gp
set_option maxRecDepth 100000
namespace Go.Proofs.YtiogceepjffmkaaGreatDoor.FnProgText
open Go.RowKit Go.Lib Go.Sort Com Mem YtiogceepjffmkaaGreatDoor.Os Ow Tr Tk Gd Gs Gp Pl
theorem progT_nil (n : Nat) : ∃ a, progT [] n = .error a := ⟨errAt [] n 0, by unfold progT bodyR; rw [if_neg (by simp [seesB])]⟩
theorem nil_err {S : List UInt8} (h : (tokz S).1 = []) : ∃ a, progR S = .error a := by
 unfold progR
 split
 ·rw [h]; exact progT_nil _
 ·exact ⟨_, rfl⟩
theorem full_ok {p : Pg} (h : (tokz (fmtP p)).1 ≠ []) : okP p = true ∧ progR (fmtP p) = .ok p := by
 have hb : (tokz (fmtP p)).2 = -1 := Classical.byContradiction fun hn => h (tokz_bad hn).1
 have hok : okP p = true := by
  by_cases ho : okP p = true
  ·exact ho
  ·exact absurd (show (tokz (fmtP p)).1 = [] by
    rw [show fmtP p = [] by unfold fmtP; rw [if_neg ho]]
    unfold tokz; rw [if_neg (by decide), lex_nil]) h
 exact ⟨hok, read_prog hok hb⟩
theorem fmtP_nil (p : Pg) : (fmtP p).isEmpty = !okP p := by
 unfold fmtP
 cases okP p with
 | true => simp
 | false => simp
theorem iprog_err {S : List UInt8} (hS : S.length ≤ 9223372036854775807) {a : Int} (hR : progR S = .error a) (w : World) (hnv : NotV w) (hh : As.Handle w) : Calls Tryz.prog 12 #[.string ⟨S.toArray⟩] w fun e w' => ∃ VA vl vc A l cc, e = .returned (.tuple #[.agg #[.slice VA vl vc, .slice A l cc], .int .i64 a]) ∧ Below w.heap.size w w' :=
 (iprog_any S hS w hnv hh).mono fun e w' h => by
  unfold ProgOk at h
  rw [progV_err hR] at h
  obtain ⟨VA, vl, vc, A, l, cc, e1, -, hb⟩ := h
  exact ⟨VA, vl, vc, A, l, cc, e1, hb⟩
theorem iprog_ok {S : List UInt8} (hS : S.length ≤ 9223372036854775807) {p : Pg} (hR : progR S = .ok p) (w : World) (hnv : NotV w) (hh : As.Handle w) : Calls Tryz.prog 12 #[.string ⟨S.toArray⟩] w fun e w' => ∃ VA vl vc A l cc, e = .returned (.tuple #[.agg #[.slice VA vl vc, .slice A l cc], .int .i64 (-1)]) ∧ OwnP w.heap.size w'.heap.size w' (.agg #[.slice VA vl vc, .slice A l cc]) p ∧ Below w.heap.size w w' :=
 (iprog_any S hS w hnv hh).mono fun e w' h => by
  unfold ProgOk at h
  rw [progV_ok hR] at h
  exact h
theorem inorm_ok {S : List UInt8} (hS : S.length ≤ 9223372036854775807) {p : Pg} (hR : progR S = .ok p) (hf : fmtP p = S) (w : World) (hnv : NotV w) (hh : As.Handle w) (hpw : L1b.Pow w) : Calls Tryz.prog 14 #[.string ⟨S.toArray⟩] w fun e w' => e = .returned (.tuple #[sv S, .bool true]) ∧ Below w.heap.size w w' :=
 (inormP_any S hS w hnv hh hpw).mono fun e w' h => by
  rw [normP_ok hR, hf] at h
  exact h
theorem stok_len {S : List UInt8} (hS : S.length ≤ 9223372036854775807) (w : World) : Calls Tryz.prog 13 #[.string ⟨S.toArray⟩] w fun e w' => ∃ A c q, e = .returned (.tuple #[.slice A (tokz S).1.length c, .int .i64 q]) ∧ Below w.heap.size w w' :=
 (stokz S hS w).mono fun e w' ⟨r, e1, ho, hb⟩ => by
  obtain ⟨A, c, rfl, -⟩ := ho.read
  exact ⟨A, c, _, e1, hb⟩
set_option maxRecDepth 100000 in
theorem walk (w : World) (hnv : NotV w) (hh : As.Handle w) (hpw : L1b.Pow w) (A : Option Addr) (k : Nat) (xs : List UInt8) (hr : Rd w w.heap.size A (xs.map bv)) (_ : xs.length ≤ 9223372036854775807) :
  Calls Tryz.prog 3 #[.slice A xs.length k] w fun e w' => e = .returned (.bool true) ∧ Below w.heap.size w w' := by
 have hbig := hid (Big.big_any A xs.length k w)
 by_cases hb : 1048576 < xs.length
 ·rw [decide_eq_true (show 1048576 < (xs.length : Int) by omega)] at hbig
  go_enter Tryz.func3, Tryz.ntmps3
  go_wp2_with fail
  refine hbig.out.mono ?_
  rintro e w1 ⟨rfl, rfl⟩
  go_wp2_with fail
  go_ret
  exact ⟨rfl, Below.refl _ _⟩
 rw [decide_eq_false (show ¬ 1048576 < (xs.length : Int) by omega)] at hbig
 have hd1 := hid (drawFormat10 A k xs w hr (by omega))
 have hnv := hid (fun (w1 : World) (h : Below w.heap.size w w1) => hnv.below h)
 have hh := hid (fun (w1 : World) (h : Below w.heap.size w w1) => hand_below hh h)
 have hpw := hid (fun (w1 : World) (h : Below w.heap.size w w1) => hpw.below h)
 clear hb hr
 go_enter Tryz.func3, Tryz.ntmps3
 go_wp2_with fail
 refine hbig.out.mono ?_
 rintro e w1 ⟨rfl, rfl⟩
 go_wp2_with fail
 refine hd1.out.mono ?_
 rintro e w1 ⟨v, V, L, rfl, hO, n1, n2, n3, n4, hb1⟩
 obtain ⟨VA, vc, B, bc, rfl, f1, f2, f3, f4, hF⟩ := hO.form
 have hVm : V.length ≤ maxI := by unfold maxI; omega
 have hVs : ∀ x ∈ V, x.length ≤ maxI := fun x hx => by have := n2 x hx; unfold maxI; omega
 have hsh := shbL_nx (L := L) (by omega)
 have htj := tJ_nx L
 have hex := ex_nx L
 have hbx := box_below w1 (.cells #[.slice VA V.length vc, .slice B L.length bc] PI)
 have z1 := hb1.size
 have z2 := size_alloc' w1 (.cells #[.slice VA V.length vc, .slice B L.length bc] PI)
 have P2 := hid (Blk.new w1 PI [.slice VA V.length vc, .slice B L.length bc])
 have B2 := hid (hb1.trans (hbx.mono hb1.size))
 have C2 := hid hbx
 have B0 := hid (fun (W : World) (h : Below w1.heap.size w1 W) => hb1.trans (h.mono hb1.size))
 have cF := hid (fun (W : World) (h : Below w1.heap.size w1 W) => iformatP ⟨V, L⟩ W VA vc B bc (hF W h).1 f4 f1 hVm hVs (hF W h).2.2 (by show cntL L ≤ 4000000; omega) (by show exL L ≤ 1048576; omega) (hpw.out _ (hb1.trans (h.mono hb1.size))))
 have cG := hid (fun (W : World) (h : Below w1.heap.size w1 W) => show Calls Tryz.prog 9 #[.agg #[.slice VA V.length vc, .slice B L.length bc]] W _ from by
  obtain ⟨r1, ⟨rows, r2⟩, -⟩ := hF W h
  exact sformatP_any ⟨V, L⟩ _ W ⟨_, rfl, rd_pg r1 hVs hVm f1 r2 f3 f2⟩ (by show cntL L ≤ 1100000; omega) (by show exL L ≤ 1900000; omega))
 have cV := hid (fun (W : World) (h : Below w1.heap.size w1 W) => show Calls Tryz.prog 10 #[.agg #[.slice VA V.length vc, .slice B L.length bc]] W _ from by
  obtain ⟨r1, ⟨rows, r2⟩, -⟩ := hF W h
  exact svalidP ⟨V, L⟩ (by dsimp only; omega) (by dsimp only; omega) _ _ (rd_pg r1 hVs hVm f1 r2 f3 f2))
 have cL := hid (fun (W : World) (h : Below w1.heap.size w1 W) => show Calls Tryz.prog 11 #[.slice B L.length bc] W (fun e w' => ∃ A' c', e = .returned (.slice A' L.length c') ∧ Below W.heap.size W w') from (iformatL B bc L W (hF W h).2.2 hsh (hpw.out _ (hb1.trans (h.mono hb1.size))) (by omega) (by omega)).mono fun e w' ⟨v, e1, hG⟩ => by
  obtain ⟨A', c', rfl, -⟩ := hG.len
  exact ⟨A', c', by rw [e1, List.length_map, tL_len], hG.2⟩)
 have cE := hid (fun (W : World) (h : Below w1.heap.size w1 W) (v' : Value) (lo hi : Nat) (h' : OwnP lo hi W v' ⟨V, L⟩) => show Calls Tryz.prog 15 #[.agg #[.slice VA V.length vc, .slice B L.length bc], v'] W fun e w' => e = .returned (.bool true) ∧ Below W.heap.size W w' from by
  obtain ⟨r1, ⟨rows, r2⟩, -⟩ := hF W h
  obtain ⟨cs', rfl, hr'⟩ := h'.at_
  have := sequalP ⟨V, L⟩ ⟨V, L⟩ _ cs' W (rd_pg r1 hVs hVm f1 r2 f3 f2) hr'
  rw [sameP_self] at this
  exact this)
 have hfl := Dr.fmtP_len ⟨V, L⟩
 have hne := fmtP_nil ⟨V, L⟩
 have hful := hid (full_ok (p := ⟨V, L⟩))
 have hni := hid (nil_err (S := fmtP ⟨V, L⟩))
 have hT := hid (fun W => stok_len (S := fmtP ⟨V, L⟩) (by omega) W)
 have hIA := hid (fun a hR W hn hh => iprog_err (S := fmtP ⟨V, L⟩) (by omega) (a := a) hR W hn hh)
 have hIB := hid (fun hR W hn hh => iprog_ok (S := fmtP ⟨V, L⟩) (by omega) (p := ⟨V, L⟩) hR W hn hh)
 have hNB := hid (fun hR W hn hh hp => inorm_ok (S := fmtP ⟨V, L⟩) (by omega) (p := ⟨V, L⟩) hR rfl W hn hh hp)
 have hoff := hid (prog_off (fmtP ⟨V, L⟩))
 dsimp only at cF cG cV
 clear hO hb1 hbx hbig hd1 hF hVm hVs hsh htj hex n1 n2 n3 n4 f1 f2 f3 f4
 generalize fmtP ⟨V, L⟩ = S at *
 generalize okP ⟨V, L⟩ = o at *
 generalize (tokz S).1 = ts at *
 have m0 : (S != S) = false := bne_self_eq_false _
 have m1 : (o != o) = false := bne_self_eq_false _
 have m2 : ((L.length : Int) != (L.length : Int)) = false := bne_self_eq_false _
 generalize hll : L.length = ll at *
 replace hll := hid hll
 obtain ⟨x0, x1⟩ := two P2.out
 go_wp2_with fail
 generalize (w1.alloc (.cells #[.slice VA V.length vc, .slice B ll bc] PI)) = w2 at *
 refine (cF.out w2 C2.out).mono ?_
 rintro e w3 ⟨rfl, hb⟩
 have P3 := hid (P2.out.below hb P2.out.lt)
 have C3 := hid (C2.out.trans (hb.mono C2.out.size))
 have z3 := hb.size
 clear hb P2 C2 B2 cF x0 x1
 have hbd : Below w3.heap.size w3 w3.drew := (Below.refl _ _).drew
 have CD := hid (C3.out.trans (hbd.mono C3.out.size))
 have stepG := hid (fun w4 (hb : Below w3.drew.heap.size w3.drew w4) => show Blk w4 w1.heap.size PI [.slice VA V.length vc, .slice B ll bc] ∧ Below w1.heap.size w1 w4 from ⟨(P3.out.below hbd P3.out.lt).below hb (P3.out.below hbd P3.out.lt).lt, CD.out.trans (hb.mono CD.out.size)⟩)
 have stepW := hid (fun w4 w5 (h : Blk w4 w1.heap.size PI [.slice VA V.length vc, .slice B ll bc] ∧ Below w1.heap.size w1 w4) (hb : Below w4.heap.size w4 w5) => show Blk w5 w1.heap.size PI [.slice VA V.length vc, .slice B ll bc] ∧ Below w1.heap.size w1 w5 from ⟨h.1.below hb h.1.lt, h.2.trans (hb.mono h.2.size)⟩)
 have cGD := hid (cG.out w3.drew CD.out)
 obtain ⟨x0, x1⟩ := two P3.out
 clear hbd cG P3
 go_wp2_with fail
 go_region_law (go_simp; first
  | (go_at_call 9; refine cGD.out.mono ?_; rintro e w4 ⟨rfl, hb⟩; have F4 := hid (stepG.out w4 hb); clear hb; obtain ⟨y0, y1⟩ := two F4.out.1)
  | (go_at_call 10; refine (cV.out w4 F4.out.2).mono ?_; rintro e w5 ⟨rfl, hb⟩; have F5 := hid (stepW.out w4 w5 F4.out hb); clear hb; obtain ⟨u0, u1⟩ := two F5.out.1)
  | (go_at_call 11; refine (cL.out w5 F5.out.2).mono ?_; rintro e w6 ⟨A6, c6, rfl, hb⟩; have F6 := hid (stepW.out w5 w6 F5.out hb); clear hb; obtain ⟨v0, v1⟩ := two F6.out.1))
 all_goals
  have C6 := hid F6.out.2
  have P6 := hid F6.out.1
  have z6 := C6.out.size
  clear F4 F5 F6 stepG stepW cGD cV cL x0 x1 y0 y1 u0 u1 v0 v1 m0 m1 m2 hne
  by_cases h0 : ts = []
  ·obtain ⟨a, hR⟩ := hni.out h0
   have ha : 0 ≤ a := by
    rcases hoff.out with ⟨p, hp, -⟩ | ⟨a', hp, h1, -⟩
    ·rw [hp] at hR; cases hR
    ·rw [hp] at hR; cases hR; exact h1
   subst h0
   simp only [List.length_nil] at hT
   have t1 : decide (0 ≤ a) = true := decide_eq_true ha
   have hI := hid (hIA.out a hR w6 (hnv.out _ (B0.out _ C6.out)) (hh.out _ (B0.out _ C6.out)))
   clear hni hoff hIA hIB hNB hful cE hR P6 hnv hh hpw
   go_wp2_with fail
   refine hI.out.mono ?_
   rintro e w7 ⟨VC, vl3, vc3, L3, l3, cc3, rfl, hb⟩
   have b8 := box_below w7 (.cells #[.slice VC vl3 vc3, .slice L3 l3 cc3] PI)
   have C7 := C6.out.trans (hb.mono C6.out.size)
   have C8 := hid (C7.trans (b8.mono C7.size))
   clear hb b8 C7 C6 hI
   go_wp2_with fail
   generalize (w7.alloc (.cells #[.slice VC vl3 vc3, .slice L3 l3 cc3] PI)) = w8 at *
   refine (hT.out w8).mono ?_
   rintro e w9 ⟨A9, c9, q9, rfl, hb⟩
   have C9 := hid (C8.out.trans (hb.mono C8.out.size))
   clear hb hT C8
   go_wp2_with fail
   go_ret
   exact ⟨rfl, B0.out _ C9.out⟩
  ·obtain ⟨ho, hR⟩ := hful.out h0
   have t0 : ((ts.length : Int) == 0) = false := beq_false_of_ne (by have := List.length_pos_iff.2 h0; omega)
   have hI := hid (hIB.out hR w6 (hnv.out _ (B0.out _ C6.out)) (hh.out _ (B0.out _ C6.out)))
   have hN := hid (hNB.out hR)
   clear hni hoff hIA hIB hNB hful hR ho h0
   go_wp2_with fail
   refine hI.out.mono ?_
   rintro e w7 ⟨VC, vl3, vc3, L3, l3, cc3, rfl, o7, hb⟩
   have b8 := box_below w7 (.cells #[.slice VC vl3 vc3, .slice L3 l3 cc3] PI)
   have z8 := size_alloc' w7 (.cells #[.slice VC vl3 vc3, .slice L3 l3 cc3] PI)
   have C7 := C6.out.trans (hb.mono C6.out.size)
   have C8 := hid (C7.trans (b8.mono C7.size))
   have P7 := P6.out.below hb P6.out.lt
   have P8 := hid (P7.below b8 P7.lt)
   have o8 := hid (show OwnP _ _ (w7.alloc (.cells #[.slice VC vl3 vc3, .slice L3 l3 cc3] PI)) _ _ from o7.same (same_below b8 (Nat.le_refl _)))
   have Q8 := hid (Blk.new w7 PI [.slice VC vl3 vc3, .slice L3 l3 cc3])
   clear hb b8 C7 P7 o7 hI C6 P6
   go_wp2_with fail
   generalize (w7.alloc (.cells #[.slice VC vl3 vc3, .slice L3 l3 cc3] PI)) = w8 at *
   refine (hT.out w8).mono ?_
   rintro e w9 ⟨A9, c9, q9, rfl, hb⟩
   have z9 := hb.size
   have C9 := hid (C8.out.trans (hb.mono C8.out.size))
   have P9 := hid (P8.out.below hb P8.out.lt)
   have Q9 := hid (Q8.out.below hb Q8.out.lt)
   have o9 := hid (o8.out.same (same_below hb (by omega)))
   clear hb hT C8 P8 Q8 o8
   go_wp2_with fail
   refine (hN.out w9 (hnv.out _ (B0.out _ C9.out)) (hh.out _ (B0.out _ C9.out)) (hpw.out _ (B0.out _ C9.out))).mono ?_
   rintro e w10 ⟨rfl, hb⟩
   have C10 := hid (C9.out.trans (hb.mono C9.out.size))
   have P10 := hid (P9.out.below hb P9.out.lt)
   have Q10 := hid (Q9.out.below hb Q9.out.lt)
   have o10 := hid (o9.out.same (same_below hb (by omega)))
   have hE := hid (cE.out w10 C10.out _ _ _ o10.out)
   have m4 : (S == S) = true := beq_self_eq_true _
   obtain ⟨j0, j1⟩ := two P10.out
   obtain ⟨i0, i1⟩ := two Q10.out
   clear hb hN C9 P9 Q9 o9 o10 cE hnv hh hpw P10 Q10
   go_wp2_with fail
   refine hE.out.mono ?_
   rintro e w11 ⟨rfl, hb⟩
   have C11 := hid (C10.out.trans (hb.mono C10.out.size))
   clear hb hE C10
   go_wp2_with fail
   go_ret
   exact ⟨rfl, B0.out _ C11.out⟩
end Go.Proofs.YtiogceepjffmkaaGreatDoor.FnProgText
