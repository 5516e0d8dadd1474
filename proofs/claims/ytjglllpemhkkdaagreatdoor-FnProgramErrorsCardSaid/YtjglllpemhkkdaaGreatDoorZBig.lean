/- The laws' look at the code's length. -/
import Derived.Test.YtjglllpemhkkdaaGreatDoorZCom
import Derived.Test.YtjglllpemhkkdaaGreatDoorZDt
import Derived.Test.YtjglllpemhkkdaaGreatDoorZP9g
import Derived.Test.YtjglllpemhkkdaaGreatDoorZC9a
set_option maxRecDepth 100000
namespace Go.Proofs.YtjglllpemhkkdaaGreatDoor.Big
open Go.RowKit
theorem big_any (A : Option Addr) (n c : Nat) (w : World) : Calls Tryz.prog 10 #[.slice A n c] w fun e w' => e = .returned (.bool (decide (1048576 < (n : Int)))) ∧ w = w' := by
  go_enter Tryz.func10, Tryz.ntmps10
  go_wp2_with fail
  go_ret
  exact ⟨rfl, rfl⟩

end Go.Proofs.YtjglllpemhkkdaaGreatDoor.Big

/- FnProgramErrors: the offset of an error is within the source code or at its end, and accepted programs are valid: the walk. -/
set_option maxRecDepth 100000
namespace Go.Proofs.YtjglllpemhkkdaaGreatDoor.FnProgErr
open Go.RowKit Go.Lib Go.Sort Com Mem YtjglllpemhkkdaaGreatDoor.Os Ow Tr Tk Gd

theorem more_at (S : List UInt8) {p : Pg} (h : progR S = .ok p) : (progV (S ++ [32, 41])).2 = if S.length + 2 ≤ 400 then ((S.length + 1 : Nat) : Int) else 400 := by
  rw [progV_err (prog_more h)]
theorem small (S : List UInt8) : cntL (progV S).1.body ≤ 150 ∧ exL (progV S).1.body ≤ 150 := by
  rcases prog_off S with ⟨p, hR, -, -, h1, h2⟩ | ⟨a, hR, -⟩
  · rw [progV_ok hR]; exact ⟨h1, h2⟩
  · rw [progV_err hR]; simp [cntL, exL]
set_option maxRecDepth 100000 in
set_option maxHeartbeats 8000000 in
theorem walk (w : World) (hnv : NotV w) (hh : As.Handle w) (A : Option Addr) (c : Nat) (xs : List UInt8) (hr : Rd w w.heap.size A (xs.map bv)) (_ : xs.length ≤ 9223372036854775807) :
    Calls Tryz.prog 4 #[.slice A xs.length c] w fun e w' => e = .returned (.bool true) ∧ Below w.heap.size w w' := by
  have hbig := hid (Big.big_any A xs.length c w)
  by_cases hb : 1048576 < xs.length
  · rw [decide_eq_true (show 1048576 < (xs.length : Int) by omega)] at hbig
    go_enter Tryz.func4, Tryz.ntmps4
    go_wp2_with fail
    refine hbig.out.mono ?_
    rintro e w1 ⟨rfl, rfl⟩
    go_wp2_with fail
    go_ret
    exact ⟨rfl, Below.refl _ _⟩
  rw [decide_eq_false (show ¬ 1048576 < (xs.length : Int) by omega)] at hbig
  have hd1 := hid (Dr.drawParse9 A c xs w hr (by omega))
  have hnv := hid (fun (w1 : World) (h : Below w.heap.size w w1) => hnv.below h)
  have hh := hid (fun (w1 : World) (h : Below w.heap.size w w1) => hand_below hh h)
  clear hb hr
  go_enter Tryz.func4, Tryz.ntmps4
  go_wp2_with fail
  refine hbig.out.mono ?_
  rintro e w1 ⟨rfl, rfl⟩
  go_wp2_with fail
  refine hd1.out.mono ?_
  rintro e w1 ⟨⟨S, rfl, hS⟩, hb⟩
  have B1 := hid hb
  clear hb hd1 hbig
  have hi1 := iprog_any S (by omega) w1 (hnv.out _ B1.out) (hh.out _ B1.out)
  have hi2 := fun w => sprog_in S (by omega) w
  have hcs := hid (prog_off S)
  have hma := hid (fun p h => more_at S (p := p) h)
  have hsm := small S
  have hi3 := fun w hn hh => iprog_any (S ++ [32, 41]) (by rw [List.length_append, List.length_cons, List.length_cons, List.length_nil]; omega) w hn hh
  unfold ProgOk at hi3
  have hcat : (⟨S.toArray⟩ : ByteArray) ++ ⟨#[32, 41]⟩ = ⟨(S ++ [32, 41]).toArray⟩ := bapp S [32, 41]
  rw [← hcat] at hi3
  clear hcat
  have hpv := hid (fun p h => progV_ok (S := S) (p := p) h)
  have hpe := hid (fun a h => progV_err (S := S) (a := a) h)
  replace hi1 := hid (show Calls Tryz.prog 17 #[.string ⟨S.toArray⟩] w1 fun e w' => ∃ VA vl vc A l cc, e = .returned (.tuple #[.agg #[.slice VA vl vc, .slice A l cc], .int .i64 (progV S).2]) ∧ OwnP w1.heap.size w'.heap.size w' (.agg #[.slice VA vl vc, .slice A l cc]) (progV S).1 ∧ Below w1.heap.size w1 w' from hi1)
  replace hi2 := hid (show ∀ w, Calls Tryz.prog 18 #[.string ⟨S.toArray⟩] w fun e w' => ∃ VA vl vc A l cc, e = .returned (.tuple #[.agg #[.slice VA vl vc, .slice A l cc], .int .i64 (progV S).2]) ∧ (PgAt w' w'.heap.size (.agg #[.slice VA vl vc, .slice A l cc]) (progV S).1 ∧ PgIn w' (.agg #[.slice VA vl vc, .slice A l cc]) (progV S).1) ∧ Below w.heap.size w w' from hi2)
  generalize progV (S ++ [32, 41]) = mv at *
  replace hi3 := hid hi3
  generalize hT : progV S = pv at *
  obtain ⟨p, bad⟩ := pv
  replace hT := hid hT
  dsimp only at hi1 hi2 hsm
  have cmp : (bad != bad) = false := bne_self_eq_false _
  go_wp2_with fail
  refine hi1.out.mono ?_
  rintro e w2 ⟨VA, vl, vc, L, l, cc, rfl, o2, hb⟩
  have B2 := B1.out.trans (hb.mono B1.out.size)
  have b3 := box_below w2 (.cells #[.slice VA vl vc, .slice L l cc] PI)
  have B3 := hid (B2.trans (b3.mono B2.size))
  have o3 := hid (show OwnP _ _ (w2.alloc (.cells #[.slice VA vl vc, .slice L l cc] PI)) _ _ from o2.same (same_below b3 (Nat.le_refl _)))
  have q3 := hid (show Blk (w2.alloc (.cells #[.slice VA vl vc, .slice L l cc] PI)) w2.heap.size PI [.slice VA vl vc, .slice L l cc] from Blk.new w2 PI _)
  have z3 : (w2.alloc (.cells #[.slice VA vl vc, .slice L l cc] PI)).heap.size = w2.heap.size + 1 := size_alloc' _ _
  clear o2 hb B2 b3 hi1
  go_wp2_with fail
  generalize (w2.alloc (.cells #[.slice VA vl vc, .slice L l cc] PI)) = w3 at *
  refine (hi2.out w3).mono ?_
  rintro e w4 ⟨VB, vl2, vc2, L2, l2, cc2, rfl, ⟨-, o4⟩, hb⟩
  have B4 := B3.out.trans (hb.mono B3.out.size)
  have s4 := hb.size
  have o3' := o3.out.same (same_below hb (by omega))
  have q3' := q3.out.below hb q3.out.lt
  have b5 := box_below w4 (.cells #[.slice VB vl2 vc2, .slice L2 l2 cc2] PI)
  have B5 := hid (B4.trans (b5.mono B4.size))
  have o5 := hid (show OwnP _ _ (w4.alloc (.cells #[.slice VB vl2 vc2, .slice L2 l2 cc2] PI)) _ _ from o3'.same (same_below b5 (by omega)))
  have p5 := hid (o4.go b5)
  have q5 := hid (q3'.below b5 q3'.lt)
  have x5 := (show Blk (w4.alloc (.cells #[.slice VB vl2 vc2, .slice L2 l2 cc2] PI)) w4.heap.size PI [.slice VB vl2 vc2, .slice L2 l2 cc2] from Blk.new w4 PI _)
  have z5 : (w4.alloc (.cells #[.slice VB vl2 vc2, .slice L2 l2 cc2] PI)).heap.size = w4.heap.size + 1 := size_alloc' _ _
  obtain ⟨k0, k1⟩ := two q5.out
  obtain ⟨l0, l1⟩ := two x5
  have hse := iequalP p p _ _ _ o5.out.in_ p5.out (by omega) (by omega)
  rw [sameP_self] at hse
  replace hse := hid hse
  clear x5 b5 B4 hb o3' q3' o4 o3 q3 hi2 B3
  go_wp2_with fail
  generalize (w4.alloc (.cells #[.slice VB vl2 vc2, .slice L2 l2 cc2] PI)) = w5 at *
  refine hse.out.mono ?_
  rintro e w6 ⟨rfl, hb⟩
  have s6 := hb.size
  have B6 := hid (B5.out.trans (hb.mono B5.out.size))
  have o6 := hid (o5.out.same (same_below hb (by omega)))
  have q6 := hid (q5.out.below hb q5.out.lt)
  obtain ⟨m0, m1⟩ := two q6.out
  clear k0 k1 l0 l1 hb hse p5 o5 q5 B5
  rcases hcs.out with ⟨p', hR, hok, -⟩ | ⟨a, hR, h0, hl⟩
  · have h1 := hpv.out p' hR
    have h2 := congrArg Prod.snd h1
    have h3 := congrArg Prod.fst h1
    dsimp only at h2 h3
    subst h2 h3
    have hmm := hma.out p hR
    have hi4 := hid (hi3.out w6 (hnv.out _ B6.out) (hh.out _ B6.out))
    clear h1 hpv hpe hma hR hcs hi3 hT hnv hh
    obtain ⟨mt, mb⟩ := mv
    dsimp only at hmm
    subst hmm
    replace hi4 := hid (show Calls Tryz.prog 17 #[.string (⟨S.toArray⟩ ++ ⟨#[32, 41]⟩)] w6 fun e w' => ∃ VA vl vc A l cc, e = .returned (.tuple #[.agg #[.slice VA vl vc, .slice A l cc], .int .i64 (if S.length + 2 ≤ 400 then ((S.length + 1 : Nat) : Int) else 400)]) ∧ OwnP w6.heap.size w'.heap.size w' (.agg #[.slice VA vl vc, .slice A l cc]) mt ∧ Below w6.heap.size w6 w' from hi4.out)
    have hval := hid (fun (W : World) (o : OwnP w1.heap.size w2.heap.size W (.agg #[.slice VA vl vc, .slice L l cc]) p) => show Calls Tryz.prog 20 #[.agg #[.slice VA vl vc, .slice L l cc]] W fun e w' => e = .returned (.bool true) ∧ Below W.heap.size W w' by
      obtain ⟨cs, e, hr⟩ := o.at_
      rw [e, ← hok]
      exact svalidP p (by omega) (by omega) cs W hr)
    replace hok := hid hok
    replace hsm := hid hsm
    by_cases h4 : S.length + 2 ≤ 400
    · rw [if_pos h4, show ((S.length + 1 : Nat) : Int) = (S.length : Int) + 1 by omega] at hi4
      have t1 : ((S.length : Int) + 1 == (S.length : Int) + 1) = true := beq_self_eq_true _
      go_wp2_with fail
      refine hi4.out.mono ?_
      rintro e w7 ⟨VC, vl3, vc3, L3, l3, cc3, rfl, -, hb⟩
      have s7 := hb.size
      have b8 := box_below w7 (.cells #[.slice VC vl3 vc3, .slice L3 l3 cc3] PI)
      have B8 := hid ((B6.out.trans (hb.mono B6.out.size)).trans (b8.mono (by have := B6.out.size; omega)))
      have o8 := hid ((o6.out.same (same_below hb (by omega))).same (same_below b8 (by omega)))
      have q8 := (q6.out.below hb q6.out.lt).below b8 (by have := q6.out.lt; omega)
      have hv8 := hid (hval.out _ o8.out)
      clear m0 m1
      obtain ⟨m0, m1⟩ := two q8
      clear hb hi4 q8 b8 o8 hval
      go_wp2_with fail
      refine hv8.out.mono ?_
      rintro e w9 ⟨rfl, hb⟩
      have B9 := hid (B8.out.trans (hb.mono B8.out.size))
      clear hb hv8 m0 m1
      go_wp2_with fail
      go_ret
      exact ⟨rfl, B9.out⟩
    · rw [if_neg h4] at hi4
      have t2 : decide (400 < (S.length : Int) + 2) = true := decide_eq_true (by omega)
      cases hq : ((400 : Int) == (S.length : Int) + 1) with
      | true =>
        go_wp2_with fail
        refine hi4.out.mono ?_
        rintro e w7 ⟨VC, vl3, vc3, L3, l3, cc3, rfl, -, hb⟩
        have s7 := hb.size
        have b8 := box_below w7 (.cells #[.slice VC vl3 vc3, .slice L3 l3 cc3] PI)
        have B8 := hid ((B6.out.trans (hb.mono B6.out.size)).trans (b8.mono (by have := B6.out.size; omega)))
        have o8 := hid ((o6.out.same (same_below hb (by omega))).same (same_below b8 (by omega)))
        have q8 := (q6.out.below hb q6.out.lt).below b8 (by have := q6.out.lt; omega)
        have hv8 := hid (hval.out _ o8.out)
        clear m0 m1
        obtain ⟨m0, m1⟩ := two q8
        clear hb hi4 q8 b8 o8 hval
        go_wp2_with fail
        refine hv8.out.mono ?_
        rintro e w9 ⟨rfl, hb⟩
        have B9 := hid (B8.out.trans (hb.mono B8.out.size))
        clear hb hv8 m0 m1
        go_wp2_with fail
        go_ret
        exact ⟨rfl, B9.out⟩
      | false =>
        go_wp2_with fail
        refine hi4.out.mono ?_
        rintro e w7 ⟨VC, vl3, vc3, L3, l3, cc3, rfl, -, hb⟩
        have s7 := hb.size
        have b8 := box_below w7 (.cells #[.slice VC vl3 vc3, .slice L3 l3 cc3] PI)
        have B8 := hid ((B6.out.trans (hb.mono B6.out.size)).trans (b8.mono (by have := B6.out.size; omega)))
        have o8 := hid ((o6.out.same (same_below hb (by omega))).same (same_below b8 (by omega)))
        have q8 := (q6.out.below hb q6.out.lt).below b8 (by have := q6.out.lt; omega)
        have hv8 := hid (hval.out _ o8.out)
        clear m0 m1
        obtain ⟨m0, m1⟩ := two q8
        clear hb hi4 q8 b8 o8 hval
        go_wp2_with fail
        refine hv8.out.mono ?_
        rintro e w9 ⟨rfl, hb⟩
        have B9 := hid (B8.out.trans (hb.mono B8.out.size))
        clear hb hv8 m0 m1
        go_wp2_with fail
        go_ret
        exact ⟨rfl, B9.out⟩
  · have h1 := hpe.out a hR
    have h2 := congrArg Prod.snd h1
    have h3 := congrArg Prod.fst h1
    dsimp only at h2 h3
    subst h2 h3
    obtain ⟨_, _, _, _, hv, -⟩ := o6.out.in_.ex
    simp only [Value.agg.injEq, Array.mk.injEq, List.cons.injEq, Value.slice.injEq, List.length_nil, and_true] at hv
    obtain ⟨⟨-, rfl, -⟩, -, rfl, -⟩ := hv
    have t1 : decide (0 ≤ bad) = true := decide_eq_true h0
    have t2 : decide (bad ≤ (S.length : Int)) = true := decide_eq_true hl
    clear h1 hpv hpe hma hR hcs hi3 hT o6 q6 hnv hh
    go_wp2_with fail
    go_ret
    exact ⟨rfl, B6.out⟩
end Go.Proofs.YtjglllpemhkkdaaGreatDoor.FnProgErr
