/- The program's FormatProgram by its contract. -/
import Derived.Test.YtiogceepjffmkaaGreatDoorYXi
import Derived.Test.YtiogceepjffmkaaGreatDoorYGdOpen
set_option maxHeartbeats 8000000
set_option maxRecDepth 100000
namespace Go.Proofs.YtiogceepjffmkaaGreatDoor.Gp
open Go.RowKit Go.Lib Go.Sort Com Mem Ow YtiogceepjffmkaaGreatDoor.Os Tr Tk Im Ag Pl Kd Gs Gd
theorem sh_shb {L : List St} : shL L → shbL L := by
  have hs : ∀ L : List St, (∀ a ∈ L, shSt a → shbSt a) → shL L → shbL L := fun L hL => by
    induction L with
    | nil => intro _; exact shbL_nil
    | cons b r ih =>
      intro h
      rw [shL] at h
      rw [shbL]
      exact ⟨hL b (by simp) h.1, ih (fun a ha => hL a (by simp [ha])) h.2⟩
  have key : ∀ t : St, shSt t → shbSt t := fun t => by
    induction t using St.ind with
    | h k s e bs es h1 h2 =>
      intro h
      rw [shSt_mk] at h
      rw [shbSt]
      exact ⟨by have := h.1; omega, hs bs h1 h.2.1, hs es h2 h.2.2⟩
  exact hs L fun a _ => key a
theorem join_jn : ∀ l : List (List UInt8), Lib.join l [32] = Gd.jn l
  | [] => rfl
  | [x] => by rw [C1j.join_jl]; rfl
  | x :: y :: r => by
    have h := join_jn (y :: r)
    rw [C1j.join_jl] at h ⊢
    show x ++ [32] ++ C1j.jl [32] (y :: r) = x ++ 32 :: Gd.jn (y :: r)
    rw [h]; simp
theorem ijoin_rd (A : Option Addr) (c : Nat) (l : List (List UInt8)) (w : World) (h : Rd w w.heap.size A (l.map sv)) (hA : ∀ ad, A = some ad → ad = ⟨ad.block, 0, none⟩) (hl : l.length ≤ c) (hm : l.length ≤ 140737488355328) (hj : (Gd.jn l).length ≤ 140737488355328) :
    Calls Tryz.prog 24 #[.slice A l.length c, .string ⟨#[32]⟩] w fun e w' => e = .returned (.string ⟨(Gd.jn l).toArray⟩) ∧ Below w.heap.size w w' := by
  have hcall : Hid (Calls Tryz.prog 58 #[.slice A l.length c, .string ⟨#[32]⟩] w fun e w' => e = .returned (.string ⟨(Gd.jn l).toArray⟩) ∧ Below w.heap.size w w') := hid (by
    by_cases h0 : l = []
    · subst h0
      refine (Tryz.strings_Join_none A c ⟨#[32]⟩ w).mono ?_
      rintro e w' ⟨rfl, rfl⟩
      exact ⟨rfl, Below.refl _ _⟩
    · obtain ⟨ad, rfl, hb, hcell⟩ := h (by simpa using h0)
      obtain ⟨g, rfl⟩ : ∃ g, ad = ⟨g, 0, none⟩ := ⟨_, hA ad rfl⟩
      have hmap : (l.map fun x : List UInt8 => (⟨x.toArray⟩ : ByteArray)).map (·.data.toList) = l := by
        rw [List.map_map]; conv => rhs; rw [← List.map_id l]
        exact List.map_congr_left fun x _ => rfl
      have hq := Tryz.strings_Join g 0 c (l.map fun x => ⟨x.toArray⟩) ⟨#[32]⟩ w (fun j x hx => by
        rw [Nat.zero_add]
        have := hcell j (.string x) (by
          rw [List.getElem?_map] at hx ⊢
          cases hq : l[j]? with
          | none => rw [hq] at hx; cases hx
          | some y => rw [hq] at hx; cases hx; rfl)
        rwa [add_zero] at this) hb (by simpa using hm) (by simpa using hl) (by rw [hmap]; show (Lib.join l [32]).length ≤ _; rw [join_jn]; exact hj)
      rw [hmap, List.length_map] at hq
      rw [show Lib.join l (⟨#[32]⟩ : ByteArray).data.toList = Gd.jn l from join_jn l] at hq
      exact hq)
  go_enter Tryz.func24, Tryz.ntmps24
  go_wp2_with fail
  refine hcall.out.mono ?_
  rintro e w' ⟨rfl, hb⟩
  go_wp2_with fail
  go_ret
  exact ⟨rfl, hb⟩
theorem ijoin_own {lo hi : Nat} {v : Value} {l : List (List UInt8)} (w : World) (h : OwnS lo hi w v l) (hm : l.length ≤ 140737488355328) (hj : (Gd.jn l).length ≤ 140737488355328) :
    Calls Tryz.prog 24 #[v, .string ⟨#[32]⟩] w fun e w' => e = .returned (.string ⟨(Gd.jn l).toArray⟩) ∧ Below w.heap.size w w' := by
  obtain ⟨A, c, rfl, hr, hc, _, _, hA⟩ := h.read_
  exact ijoin_rd A c l w hr hA hc hm hj
theorem jn_len {m : Nat} : ∀ l : List (List UInt8), (∀ x ∈ l, x.length ≤ m) → (Gd.jn l).length ≤ (m + 1) * l.length
  | [], _ => by simp [Gd.jn]
  | [x], h => by have := h x (by simp); simp [Gd.jn]; omega
  | x :: y :: r, h => by
    have h1 := jn_len (y :: r) fun z hz => h z (by simp [hz])
    have h2 := h x (by simp)
    simp only [Gd.jn, List.length_append, List.length_cons, Nat.mul_add, Nat.mul_one] at h1 ⊢
    omega
theorem iformatP (p : Pg) (w : World) (A : Option Addr) (c : Nat) (Bb : Option Addr) (cb : Nat) (hr : Rd w w.heap.size A (p.vs.map sv)) (hA : ∀ ad, A = some ad → ad = ⟨ad.block, 0, none⟩) (hc : p.vs.length ≤ c) (hV : p.vs.length ≤ maxI) (hVs : ∀ x ∈ p.vs, x.length ≤ maxI)
    (hla : LA (pln w) w.heap.size ⟨Bb, cb, p.body⟩) (hcn : cntL p.body ≤ 4000000) (hex : exL p.body ≤ 1048576) (hp : L1b.Pow w) :
    Calls Tryz.prog 8 #[.agg #[.slice A p.vs.length c, .slice Bb p.body.length cb]] w fun e w' => e = .returned (.string ⟨(fmtP p).toArray⟩) ∧ Below w.heap.size w w' := by
  have b1 := box_below w (.cells #[.slice A p.vs.length c, .slice Bb p.body.length cb] PI)
  have bx := hid (Blk.new w PI [.slice A p.vs.length c, .slice Bb p.body.length cb])
  have hv := hid (Sr.ivalidP p _ A c Bb cb ((hr.below b1).more b1.size) hA hV hVs (la_mono hla b1) hcn hex)
  have hb1 := hid b1
  by_cases hok : okP p = true
  · obtain ⟨hraw, hasc⟩ := raw_nrm hok
    rw [hok] at hv
    have hok' := hok
    unfold okP varsB at hok'
    simp only [Bool.and_eq_true, decide_eq_true_eq] at hok'
    obtain ⟨⟨hva, hv2, -⟩, hc8, -, hoks⟩ := hok'
    have hv8 : ∀ x ∈ p.vs, x.length ≤ 8 := fun x hx => by
      have := List.all_eq_true.1 hva x hx
      unfold C2.validB at this
      simp only [Bool.and_eq_true, decide_eq_true_eq] at this
      exact this.1
    have hsh := ok_short hv8 p.body hoks
    have htj := tJ_len p.body hsh
    have hjv := jn_len (m := 8) p.vs hv8
    have hl8 := len_cntL p.body
    have hjb := jn_len (m := 4000) (tL p.body) (fun x hx => by
      obtain ⟨t, ht, rfl⟩ := List.mem_map.1 hx
      obtain ⟨j, hj⟩ := List.mem_iff_getElem?.1 ht
      have := tJ_mem hj
      omega)
    rw [tL_len] at hjb
    have htl : (tL p.body).length ≤ 8 := by rw [tL_len]; omega
    have l1 : (Gd.jn p.vs).length ≤ 1000 := by omega
    have l2 : (Gd.jn (tL p.body)).length ≤ 100000 := by omega
    have hrl : (rawP p.vs p.body).length ≤ 100000 := by unfold rawP; simp only [List.length_append, List.length_cons, List.length_nil]; omega
    have cv := hid (fun W (hb : Below w.heap.size w W) => ijoin_rd A c p.vs W ((hr.below hb).more hb.size) hA hc (by omega) (by omega))
    have cf := hid (fun W (hb : Below w.heap.size w W) => show Calls Tryz.prog 11 #[.slice Bb p.body.length cb] W fun e w' => ∃ v, e = .returned v ∧ OwnS W.heap.size w'.heap.size w' v (tL p.body) ∧ Below W.heap.size W w' from
      (iformatL Bb cb p.body W (la_mono hla hb) (sh_shb hsh) (hp.below hb) (by omega) (by omega)).mono fun e w' ⟨v, e1, hG⟩ => ⟨v, e1, own_rowG hG.1, hG.2⟩)
    have cj := hid (fun W lo hi v (h : OwnS lo hi W v (tL p.body)) => ijoin_own W h (by omega) (by omega))
    have hra : (⟨#[118, 97, 114, 115, 32]⟩ ++ ⟨(Gd.jn p.vs).toArray⟩ ++ ⟨#[32, 59, 32]⟩ ++ ⟨(Gd.jn (tL p.body)).toArray⟩ : ByteArray) = ⟨(rawP p.vs p.body).toArray⟩ := by
      rw [show (⟨#[118, 97, 114, 115, 32]⟩ : ByteArray) = ⟨[118, 97, 114, 115, 32].toArray⟩ from rfl, show (⟨#[32, 59, 32]⟩ : ByteArray) = ⟨[32, 59, 32].toArray⟩ from rfl, bapp, bapp, bapp]; rfl
    have cn := hid (fun W => inormS (rawP p.vs p.body) hasc (by omega) W)
    rw [← hra, hraw] at cn
    generalize tL p.body = tx at *
    generalize Gd.jn p.vs = jv at *
    generalize Gd.jn tx = jb at *
    generalize fmtP p = res at *
    have z1 : (⟨#[118, 97, 114, 115, 32]⟩ : ByteArray).size = 5 := rfl
    have z2 : (⟨#[32, 59, 32]⟩ : ByteArray).size = 3 := rfl
    have z3 : (⟨jv.toArray⟩ : ByteArray).size = jv.length := by show jv.toArray.size = _; rw [List.size_toArray]
    have z4 : (⟨jb.toArray⟩ : ByteArray).size = jb.length := by show jb.toArray.size = _; rw [List.size_toArray]
    have a1 := fun W => run_string_add_sum (P := Tryz.prog) W ⟨#[118, 97, 114, 115, 32]⟩ ⟨jv.toArray⟩ (by rw [z1, z3]; omega)
    have a2 := fun W => run_string_add_sum (P := Tryz.prog) W (⟨#[118, 97, 114, 115, 32]⟩ ++ ⟨jv.toArray⟩) ⟨#[32, 59, 32]⟩ (by rw [ByteArray.size_append, z1, z2, z3]; omega)
    have a3 := fun W => run_string_add_sum (P := Tryz.prog) W (⟨#[118, 97, 114, 115, 32]⟩ ++ ⟨jv.toArray⟩ ++ ⟨#[32, 59, 32]⟩) ⟨jb.toArray⟩ (by rw [ByteArray.size_append, ByteArray.size_append, z1, z2, z3, z4]; omega)
    clear z1 z2 z3 z4 l1 l2
    generalize p.vs.length = N at *
    generalize p.body.length = M at *
    clear hr hA hc hV hVs hla hcn hex hp b1 hok hraw hasc hva hv2 hc8 hoks hv8 hsh htj hjv hl8 hjb htl hrl hra
    go_enter Tryz.func8, Tryz.ntmps8
    obtain ⟨q0, q1⟩ := two bx.out
    go_wp2_with fail
    refine hv.out.mono ?_
    rintro e w2 ⟨rfl, hb⟩
    have bW := hid (hb1.out.trans (hb.mono hb1.out.size)).drew
    have bx := hid (bx.out.below hb bx.out.lt)
    clear hb q0 q1 hv hb1
    obtain ⟨q0, q1⟩ := two bx.out
    have bx := hid (bx.out.below (Below.refl w2.heap.size w2).drew bx.out.lt)
    go_wp2_with fail
    have q := two bx.out
    go_region_held3 (fun w' => w'.cell? ⟨w.heap.size, 0, none⟩ = some (.slice A N c) ∧ w'.cell? ⟨w.heap.size, 1, none⟩ = some (.slice Bb M cb)) (first | (exact q) | go_keep)
      (first
      | (go_at_call 24; refine (cv.out _ (by first | exact bW.out | exact bW.out.drew)).mono ?_; rintro e w5 ⟨rfl, hb⟩; have bx := hid (bx.out.below hb bx.out.lt); have q := two bx.out; have bW := hid (bW.out.trans (hb.mono bW.out.size)); try (have oT := hid (oT.out.same (same_below hb (by omega)))))
      | (go_at_call 11; refine (cf.out _ (by first | exact bW.out | exact bW.out.drew)).mono ?_; rintro e w5 ⟨v, rfl, oT, hb⟩; have oT := hid oT; have bx := hid (bx.out.below hb bx.out.lt); have q := two bx.out; have bW := hid (bW.out.trans (hb.mono bW.out.size)))
      | (go_at_call 24; refine (cj.out _ _ _ _ oT.out).mono ?_; rintro e w5 ⟨rfl, hb⟩; have bx := hid (bx.out.below hb bx.out.lt); have q := two bx.out; have bW := hid (bW.out.trans (hb.mono bW.out.size)))
      | (go_at_call 23; refine (cn.out _).mono ?_; rintro e w5 ⟨rfl, hb⟩; have bx := hid (bx.out.below hb bx.out.lt); have q := two bx.out; have bW := hid (bW.out.trans (hb.mono bW.out.size))))
    all_goals
      go_wp2_with fail
      go_ret
      exact ⟨rfl, bW.out⟩
  · rw [show okP p = false by simpa using hok] at hv
    have hf : fmtP p = [] := by unfold fmtP; rw [if_neg hok]
    rw [hf]
    clear hr hA hc hV hVs hla hcn hex hp b1 hok hf
    go_enter Tryz.func8, Tryz.ntmps8
    obtain ⟨q0, q1⟩ := two bx.out
    go_wp2_with fail
    refine hv.out.mono ?_
    rintro e w2 ⟨rfl, hb⟩
    have bW := hid (hb1.out.trans (hb.mono hb1.out.size))
    clear hb q0 q1 hv hb1
    go_wp2_with fail
    go_ret
    exact ⟨rfl, bW.out⟩
theorem iformatP_own {lo hi : Nat} {v : Value} {p : Pg} (w : World) (hp : L1b.Pow w) (h : OwnP lo hi w v p) (hz : szP8 p ≤ 1048576) : Calls Tryz.prog 8 #[v] w fun e w' => e = .returned (sv (fmtP p)) ∧ Below w.heap.size w w' := by
  have h1 := szP8_body p
  have h2 := cnt_sz8 p.body
  have h3 := ex_szDL p.body
  unfold szL8 at h1 h2
  obtain ⟨cs, rfl, hr⟩ := h
  unfold Pg.d at hr
  cases hr with
  | ss hS hs _ _ r =>
    obtain ⟨A, c, rfl, hrd, hc1, hm1, _, hA⟩ := hS.read_
    obtain ⟨Bb, cb, rr, rows, rfl, hk, hl, hn⟩ := (own_plnD r).sl_
    obtain rfl := hn.nil_
    rw [dl_len] at *
    exact iformatP p w A c Bb cb hrd hA hc1 (by unfold maxLen at hm1; unfold maxI; omega) hs (la_row hk hl) (by omega) (by omega) hp
theorem sformatP_own {lo hi : Nat} {v : Value} {p : Pg} (w : World) (h : OwnP lo hi w v p) (hz : szP8 p ≤ 1048576) : Calls Tryz.prog 9 #[v] w fun e w' => e = .returned (sv (fmtP p)) ∧ Below w.heap.size w w' := by
  have h1 := szP8_body p
  have h2 := cnt_sz8 p.body
  have h3 := ex_szDL p.body
  unfold szL8 at h1 h2
  exact sformatP_any p v w h.at_ (by omega) (by omega)
end Go.Proofs.YtiogceepjffmkaaGreatDoor.Gp
set_option maxRecDepth 100000
namespace Go.Proofs.YtiogceepjffmkaaGreatDoor.Gd
open Go.ChangeShapes Go.WideShapes Go.ChangeAt Go.RowKit Close Mem Tr
theorem st_of {ds : List D} {ks : List K} (h : Ty ks ds) : (ks = sh 1 → ∃ t : St, ds = t.d) ∧ (ks = [.i, .s, .x, .sl 1, .sl 1].drop 1 → ∃ s e bs es, ds = [.s s, .x e, .sl 1 (dl bs), .sl 1 (dl es)]) ∧ (ks = [.x, .sl 1, .sl 1] → ∃ e bs es, ds = [.x e, .sl 1 (dl bs), .sl 1 (dl es)]) ∧ (ks = [.sl 1, .sl 1] → ∃ bs es, ds = [.sl 1 (dl bs), .sl 1 (dl es)]) ∧ (ks = [.sl 1] → ∃ L, ds = [.sl 1 (dl L)]) ∧ (ks = [] → ds = []) := by
  have fam : ∀ l : List (List D), (∀ e ∈ l, ∃ t : St, e = t.d) → ∃ L, l = dl L := fun l => by
    induction l with
    | nil => intro _; exact ⟨[], rfl⟩
    | cons a r ih =>
      intro h
      obtain ⟨t, rfl⟩ := h a (by simp)
      obtain ⟨L, rfl⟩ := ih fun e he => h e (by simp [he])
      exact ⟨t :: L, rfl⟩
  induction h with
  | nil => exact ⟨(fun h => by cases h), (fun h => by cases h), (fun h => by cases h), (fun h => by cases h), (fun h => by cases h), fun _ => rfl⟩
  | i r ih =>
    refine ⟨fun h => ?_, (fun h => by cases h), (fun h => by cases h), (fun h => by cases h), (fun h => by cases h), (fun h => by cases h)⟩
    injection h with _ h2
    obtain ⟨s, e, bs, es, rfl⟩ := ih.2.1 h2
    exact ⟨.mk _ s e bs es, (St.d_mk _ _ _ _ _).symm⟩
  | b r ih => exact ⟨(fun h => by cases h), (fun h => by cases h), (fun h => by cases h), (fun h => by cases h), (fun h => by cases h), (fun h => by cases h)⟩
  | s r ih =>
    refine ⟨(fun h => by cases h), fun h => ?_, (fun h => by cases h), (fun h => by cases h), (fun h => by cases h), (fun h => by cases h)⟩
    injection h with _ h2
    obtain ⟨e, bs, es, rfl⟩ := ih.2.2.1 h2
    exact ⟨_, e, bs, es, rfl⟩
  | x r ih =>
    refine ⟨(fun h => by cases h), (fun h => by cases h), fun h => ?_, (fun h => by cases h), (fun h => by cases h), (fun h => by cases h)⟩
    injection h with _ h2
    obtain ⟨bs, es, rfl⟩ := ih.2.2.2.1 h2
    exact ⟨_, bs, es, rfl⟩
  | ss r ih => exact ⟨(fun h => by cases h), (fun h => by cases h), (fun h => by cases h), (fun h => by cases h), (fun h => by cases h), (fun h => by cases h)⟩
  | is r ih => exact ⟨(fun h => by cases h), (fun h => by cases h), (fun h => by cases h), (fun h => by cases h), (fun h => by cases h), (fun h => by cases h)⟩
  | sl hl r ihl ih =>
    refine ⟨(fun h => by cases h), (fun h => by cases h), (fun h => by cases h), fun h => ?_, fun h => ?_, (fun h => by cases h)⟩
    · injection h with h1 h2
      injection h1 with h1
      subst h1
      obtain ⟨L, rfl⟩ := fam _ fun e he => (ihl e he).1 rfl
      obtain ⟨M, rfl⟩ := ih.2.2.2.2.1 h2
      exact ⟨L, M, rfl⟩
    · injection h with h1 h2
      injection h1 with h1
      subst h1
      obtain ⟨L, rfl⟩ := fam _ fun e he => (ihl e he).1 rfl
      obtain rfl := ih.2.2.2.2.2 h2
      exact ⟨L, rfl⟩
abbrev U1 : Nat → Prop := fun n => n = 1
def tyLaw : Nat → TypeId
  | 1 => 126
  | _ => 0
set_option maxRecDepth 100000 in
theorem stAt : ∀ n, U1 n → StructAt Tryz.prog U1 tyLaw (tyLaw n) (sh n) := fun n hn => by
  subst hn
  obtain ⟨g0, g1, g2, g3, F⟩ := fourL
  refine ⟨_, Tryz.underlying126, ?_, by kernel_rfl⟩
  refine ⟨rfl, ⟨Tryz.underlying3, by kernel_rfl⟩, rfl, ⟨Tryz.underlying9, by kernel_rfl⟩, rfl, ⟨_, _, _, g0, g1, g2, g3, F⟩, rfl, ⟨rfl, Tryz.underlying40, by kernel_rfl, by kernel_rfl⟩, rfl, ⟨rfl, Tryz.underlying40, by kernel_rfl, by kernel_rfl⟩, trivial⟩
set_option maxRecDepth 100000 in
theorem open_pgL {H : Type} {enc : TypeId × Value → H} {W : World} {base : Nat} {sp : Nat → Bool} {v : Value} {d : DataW H} {p : List MemPlace}
    (hv : Value.okWide Tryz.prog W .any base 42 v) (h : DataW.Trod enc Tryz.prog W 0 sp true 42 v d p) :
    ∃ (p : Pg) (cs : List Value), v = .agg cs.toArray ∧ Rd8 W W.heap.size cs p.d := by
  have hS : StructAt Tryz.prog U1 tyLaw 42 [.ss, .sl 1] :=
    ⟨_, Tryz.underlying42, ⟨rfl, ⟨_, Tryz.underlying24, Tryz.underlying9, by kernel_rfl, by kernel_rfl⟩, rfl, ⟨rfl, Tryz.underlying40, by kernel_rfl, by kernel_rfl⟩, trivial⟩, by kernel_rfl⟩
  obtain ⟨fs, hu, _⟩ := id hS
  obtain ⟨cs, hcs, _⟩ := okWide_struct hu hv
  subst hcs
  obtain ⟨n, hn⟩ := h
  obtain ⟨ds, ht, hr, _⟩ := open_struct (fun m _ => open_sub stAt m) hS hn
  cases ht with
  | @ss V _ _ r =>
    obtain ⟨L, rfl⟩ := (st_of r).2.2.2.2.1 rfl
    exact ⟨⟨V, L⟩, _, rfl, hr⟩
end Go.Proofs.YtiogceepjffmkaaGreatDoor.Gd
set_option maxRecDepth 100000
namespace Go.Proofs.YtiogceepjffmkaaGreatDoor.Tr
open Go.RowKit Go.Lib Go.Sort Com Mem YtiogceepjffmkaaGreatDoor.Os
end Go.Proofs.YtiogceepjffmkaaGreatDoor.Tr
