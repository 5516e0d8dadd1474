/- FnParseErrors: the offset of an error is within the string or at its end, and what follows a correct expression is an error: the walk. -/
import Derived.Test.YtklcbagddijkgaaGreatDoorZDt
import Derived.Test.YtklcbagddijkgaaGreatDoorZP6i
import Derived.Test.YtklcbagddijkgaaGreatDoorZC6d
import Derived.Test.YtklcbagddijkgaaGreatDoorZBig
set_option maxRecDepth 100000
namespace Go.Proofs.YtklcbagddijkgaaGreatDoor.FnParse
open Go.RowKit Go.Lib Go.Sort Go.Proofs.YtklcbagddijkgaaGreatDoor.Com Go.Proofs.YtklcbagddijkgaaGreatDoor.Mem Go.Proofs.YtklcbagddijkgaaGreatDoor.Os Go.Proofs.YtklcbagddijkgaaGreatDoor.Ow Go.Proofs.YtklcbagddijkgaaGreatDoor.Tr Go.Proofs.YtklcbagddijkgaaGreatDoor.Tk

theorem more_at (S : List UInt8) {t : T} (h : parseR S = .ok t) : (parseV (S ++ [32, 41])).2 = if S.length + 2 ≤ 400 then ((S.length + 1 : Nat) : Int) else 400 := by
  rw [parseV_err (parse_more h)]
set_option maxRecDepth 100000 in
set_option maxHeartbeats 4000000 in
theorem walk (w : World) (hnv : NotV w) (hh : As.Handle w) (A : Option Addr) (c : Nat) (xs : List UInt8) (hr : Rd w w.heap.size A (xs.map bv)) (_ : xs.length ≤ 9223372036854775807) :
    Calls Tryz.prog 3 #[.slice A xs.length c] w fun e w' => e = .returned (.bool true) ∧ Below w.heap.size w w' := by
  have hbig := hid (Big.big_any A xs.length c w)
  by_cases hb : 1048576 < xs.length
  · rw [decide_eq_true (show 1048576 < (xs.length : Int) by omega)] at hbig
    go_enter Tryz.func3, Tryz.ntmps3
    go_wp2_with fail
    refine hbig.out.mono ?_
    rintro e w1 ⟨rfl, rfl⟩
    go_wp2_with fail
    go_ret
    exact ⟨rfl, Below.refl _ _⟩
  rw [decide_eq_false (show ¬ 1048576 < (xs.length : Int) by omega)] at hbig
  have hd1 := hid (Dr.drawParse A c xs w hr (by omega))
  have hnv := hid (fun (w1 : World) (h : Below w.heap.size w w1) => hnv.below h)
  have hh := hid (fun (w1 : World) (h : Below w.heap.size w w1) => hand_below hh h)
  clear hb hr
  go_enter Tryz.func3, Tryz.ntmps3
  go_wp2_with fail
  refine hbig.out.mono ?_
  rintro e w1 ⟨rfl, rfl⟩
  go_wp2_with fail
  refine hd1.out.mono ?_
  rintro e w1 ⟨⟨S, rfl, hS⟩, hb⟩
  have B1 := hid hb
  clear hb hd1 hbig
  have hi1 := hid (iparse_any S (by omega) w1 (hnv.out _ B1.out) (hh.out _ B1.out))
  have hi2 := hid (fun w => sparse_any S (by omega) w)
  have hcs := hid (parse_off S)
  have hma := hid (fun t h => more_at S (t := t) h)
  have hi3 := fun w hn hh => iparse_any (S ++ [32, 41]) (by rw [List.length_append, List.length_cons, List.length_cons, List.length_nil]; omega) w hn hh
  unfold ParseOk at hi3
  have hcat : (⟨S.toArray⟩ : ByteArray) ++ ⟨#[32, 41]⟩ = ⟨(S ++ [32, 41]).toArray⟩ := bapp S [32, 41]
  rw [← hcat] at hi3
  clear hcat
  have hpv := hid (fun t h => parseV_ok (S := S) (t := t) h)
  have hpe := hid (fun a h => parseV_err (S := S) (a := a) h)
  replace hi1 := hid (show Calls Tryz.prog 12 #[.string ⟨S.toArray⟩] w1 fun e w' => ∃ K N s A L cc, e = .returned (.tuple #[nv K N s A L cc, .int .i64 (parseV S).2]) ∧ OwnE ET w' w1.heap.size w'.heap.size (nv K N s A L cc) (parseV S).1 ∧ Below w1.heap.size w1 w' from hi1.out)
  replace hi2 := hid (show ∀ w, Calls Tryz.prog 13 #[.string ⟨S.toArray⟩] w fun e w' => ∃ K N s A L cc, e = .returned (.tuple #[nv K N s A L cc, .int .i64 (parseV S).2]) ∧ OwnE ET w' w.heap.size w'.heap.size (nv K N s A L cc) (parseV S).1 ∧ Below w.heap.size w w' from hi2.out)
  generalize parseV (S ++ [32, 41]) = mv at *
  replace hi3 := hid hi3
  generalize hT : parseV S = pv at *
  obtain ⟨t, bad⟩ := pv
  replace hT := hid hT
  dsimp only at hi1 hi2
  have cmp : (bad != bad) = false := bne_self_eq_false _
  go_wp2_with fail
  refine hi1.out.mono ?_
  rintro e w2 ⟨K, N, s, B, L, cc, rfl, o2, hb⟩
  have B2 := B1.out.trans (hb.mono B1.out.size)
  have b3 := box_below w2 (.cells #[.int .i64 K, .int .i64 N, .string ⟨s.toArray⟩, .slice B L cc] ET)
  have B3 := hid (B2.trans (b3.mono B2.size))
  have o3 := hid (o2.same (same_below b3 (Nat.le_refl _)))
  have q3 := hid (show Blk (w2.alloc (.cells #[.int .i64 K, .int .i64 N, .string ⟨s.toArray⟩, .slice B L cc] ET)) w2.heap.size ET [.int .i64 K, .int .i64 N, .string ⟨s.toArray⟩, .slice B L cc] from Blk.new w2 ET _)
  have z3 : (w2.alloc (.cells #[.int .i64 K, .int .i64 N, .string ⟨s.toArray⟩, .slice B L cc] ET)).heap.size = w2.heap.size + 1 := size_alloc' _ _
  clear o2 hb B2 b3 hi1
  go_wp2_with fail
  generalize (w2.alloc (.cells #[.int .i64 K, .int .i64 N, .string ⟨s.toArray⟩, .slice B L cc] ET)) = w3 at *
  refine (hi2.out w3).mono ?_
  rintro e w4 ⟨K2, N2, s2, B2, L2, cc2, rfl, o4, hb⟩
  have B4 := B3.out.trans (hb.mono B3.out.size)
  have s4 := hb.size
  have o3' := o3.out.same (same_below hb (by omega))
  have q3' := q3.out.below hb q3.out.lt
  have b5 := box_below w4 (.cells #[.int .i64 K2, .int .i64 N2, .string ⟨s2.toArray⟩, .slice B2 L2 cc2] ET)
  have B5 := hid (B4.trans (b5.mono B4.size))
  have o5 := hid (o3'.same (same_below b5 (by omega)))
  have p5 := hid (o4.same (same_below b5 (Nat.le_refl _)))
  have q5 := q3'.below b5 q3'.lt
  have x5 := (show Blk (w4.alloc (.cells #[.int .i64 K2, .int .i64 N2, .string ⟨s2.toArray⟩, .slice B2 L2 cc2] ET)) w4.heap.size ET [.int .i64 K2, .int .i64 N2, .string ⟨s2.toArray⟩, .slice B2 L2 cc2] from Blk.new w4 ET _)
  obtain ⟨k0, k1, k2, k3⟩ := Tr.four q5
  obtain ⟨l0, l1, l2, l3⟩ := Tr.four x5
  have hse := hid (seq_own _ o5.out p5.out)
  rw [eqT_self] at hse
  replace q5 := hid q5
  clear x5 b5 B4 hb o3' q3' o4 o3 q3 hi2 B3
  go_wp2_with fail
  generalize (w4.alloc (.cells #[.int .i64 K2, .int .i64 N2, .string ⟨s2.toArray⟩, .slice B2 L2 cc2] ET)) = w5 at *
  refine hse.out.mono ?_
  rintro e w6 ⟨rfl, hb⟩
  have B6 := hid (B5.out.trans (hb.mono B5.out.size))
  obtain ⟨m0, m1, m2, m3⟩ := Tr.four (q5.out.below hb q5.out.lt)
  clear k0 k1 k2 k3 l0 l1 l2 l3 hb hse p5
  rcases hcs.out with ⟨t', hR, -⟩ | ⟨a, hR, h0, hl⟩
  · have h1 := hpv.out t' hR
    have h2 := congrArg Prod.snd h1
    dsimp only at h2
    subst h2
    have hmm := hma.out t' hR
    have hi4 := hid (hi3.out w6 (hnv.out _ B6.out) (hh.out _ B6.out))
    clear h1 hpv hpe hma hR hcs o5 q5 hi3 hT
    obtain ⟨mt, mb⟩ := mv
    dsimp only at hmm
    subst hmm
    replace hi4 := hid (show Calls Tryz.prog 12 #[.string (⟨S.toArray⟩ ++ ⟨#[32, 41]⟩)] w6 fun e w' => ∃ K N s A L cc, e = .returned (.tuple #[nv K N s A L cc, .int .i64 (if S.length + 2 ≤ 400 then ((S.length + 1 : Nat) : Int) else 400)]) ∧ OwnE ET w' w6.heap.size w'.heap.size (nv K N s A L cc) mt ∧ Below w6.heap.size w6 w' from hi4.out)
    by_cases h4 : S.length + 2 ≤ 400
    · rw [if_pos h4, show ((S.length + 1 : Nat) : Int) = (S.length : Int) + 1 by omega] at hi4
      have t1 : ((S.length : Int) + 1 == (S.length : Int) + 1) = true := beq_self_eq_true _
      go_wp2_with fail
      refine hi4.out.mono ?_
      rintro e w7 ⟨K3, N3, s3, A3, L3, cc3, rfl, -, hb⟩
      have B7 := hid ((B6.out.trans (hb.mono B6.out.size)).trans ((box_below w7 (.cells #[.int .i64 K3, .int .i64 N3, .string ⟨s3.toArray⟩, .slice A3 L3 cc3] ET)).mono (B6.out.trans (hb.mono B6.out.size)).size))
      clear hb hi4 m0 m1 m2 m3
      go_wp2_with fail
      go_ret
      exact ⟨rfl, B7.out⟩
    · rw [if_neg h4] at hi4
      have t2 : decide (400 < (S.length : Int) + 2) = true := decide_eq_true (by omega)
      cases hq : ((400 : Int) == (S.length : Int) + 1) with
      | true =>
        go_wp2_with fail
        refine hi4.out.mono ?_
        rintro e w7 ⟨K3, N3, s3, A3, L3, cc3, rfl, -, hb⟩
        have B7 := hid ((B6.out.trans (hb.mono B6.out.size)).trans ((box_below w7 (.cells #[.int .i64 K3, .int .i64 N3, .string ⟨s3.toArray⟩, .slice A3 L3 cc3] ET)).mono (B6.out.trans (hb.mono B6.out.size)).size))
        clear hb hi4 m0 m1 m2 m3
        go_wp2_with fail
        go_ret
        exact ⟨rfl, B7.out⟩
      | false =>
        go_wp2_with fail
        refine hi4.out.mono ?_
        rintro e w7 ⟨K3, N3, s3, A3, L3, cc3, rfl, -, hb⟩
        have B7 := hid ((B6.out.trans (hb.mono B6.out.size)).trans ((box_below w7 (.cells #[.int .i64 K3, .int .i64 N3, .string ⟨s3.toArray⟩, .slice A3 L3 cc3] ET)).mono (B6.out.trans (hb.mono B6.out.size)).size))
        clear hb hi4 m0 m1 m2 m3
        go_wp2_with fail
        go_ret
        exact ⟨rfl, B7.out⟩
  · have h1 := hpe.out a hR
    have h2 := congrArg Prod.snd h1
    have h3 := congrArg Prod.fst h1
    dsimp only at h2 h3
    subst h2 h3
    obtain ⟨rfl, rfl, rfl, -⟩ := o5.out.own_root
    obtain ⟨rfl, -⟩ := o5.out.inv
    have t1 : decide (0 ≤ bad) = true := decide_eq_true h0
    have t2 : decide (bad ≤ (S.length : Int)) = true := decide_eq_true hl
    clear h1 hpv hpe hma hR hcs o5 q5 hi3 hT
    go_wp2_with fail
    go_ret
    exact ⟨rfl, B6.out⟩
end Go.Proofs.YtklcbagddijkgaaGreatDoor.FnParse
