/- The program's ParseExpr. -/
import Derived.Test.YtklcbagddijkgaaGreatDoorZP6c
import Derived.Test.YtklcbagddijkgaaGreatDoorZPz
import Derived.Test.YtklcbagddijkgaaGreatDoorZC5i
import Derived.Test.YtklcbagddijkgaaGreatDoorZC4a
import Derived.Test.YtklcbagddijkgaaGreatDoorZAs6
import Derived.Test.YtklcbagddijkgaaGreatDoorZP6o
import Derived.Deep.RegionWith
set_option maxRecDepth 100000
namespace Go.Proofs.YtklcbagddijkgaaGreatDoor.Tk
open Go.RowKit Go.Lib Go.Sort Go.Proofs.YtklcbagddijkgaaGreatDoor.Num Go.Proofs.YtklcbagddijkgaaGreatDoor.Com Go.Proofs.YtklcbagddijkgaaGreatDoor.Mem Go.Proofs.YtklcbagddijkgaaGreatDoor.Os Go.Proofs.YtklcbagddijkgaaGreatDoor.Tr

theorem rd_self {w : World} {B b : Nat} {xs : List Value} (h : Rd w B (some ⟨b, 0, none⟩) xs) : Rd w (b + 1) (some ⟨b, 0, none⟩) xs := fun hn => by
  obtain ⟨ad, e, _, hc⟩ := h hn
  cases e
  exact ⟨_, rfl, Nat.lt_succ_self b, hc⟩
/-- what newParser promises -/
def NewOk (S : List UInt8) (w : World) (e : Ending) (w' : World) : Prop := Below w.heap.size w w' ∧
  if (tokz S).2 = -1 then ∃ g b c, e = .returned (.tuple #[.pointer (some ⟨g, 0, none⟩), .nilIface]) ∧ Prs w' g b c (uz (tokz S).1 (S.length : Nat)) 0 ∧ w.heap.size ≤ g ∧ w.heap.size ≤ b
  else e = .returned (.tuple #[.pointer none, errV (tokz S).2])
set_option maxHeartbeats 2000000 in
theorem newp_any (S : List UInt8) (hS : S.length ≤ 9223372036854775807) (w : World) : Calls Tryz.prog 125 #[.string ⟨S.toArray⟩] w (NewOk S w) := by
  have ht := itokz S hS w
  unfold TokOk at ht
  have hbad := hid (tokz_bad (S := S))
  have hsm := hid (tokz_le (S := S))
  have h150 := tokz_len S
  unfold NewOk
  generalize hT : tokz S = T at *
  obtain ⟨L, bad⟩ := T
  dsimp only at ht hbad hsm h150 ⊢
  have ht := hid ht
  by_cases hneg : bad = -1
  · subst hneg
    have hS4 := hsm.out rfl
    simp only [if_pos]
    clear hbad hsm hT
    go_enter Tryz.func125, Tryz.ntmps125
    go_wp2_with fail
    refine ht.out.mono ?_
    rintro e w2 ⟨r, rfl, ho, hb⟩
    have hrow := hid ho.row
    have hb := hid hb
    have hsz := hb.out.size
    clear ho ht
    go_wp2_with (at_builtin; refine app_tok hrow.out hsz ⟨0, 0, (S.length : Nat), []⟩ (by omega) rfl _ _ rfl rfl _ rfl rfl ?_; intro v5 w5 hr5 hg5; obtain ⟨g5, c5, rfl, hge, -⟩ := row_last hr5; have hb5 := hid (below_row hb.out hrow.out hg5 hsz); replace hr5 := hid hr5; clear hg5)
    go_ret2
    have hO : OwnT w.heap.size w5.heap.size w5 (.slice (some ⟨g5, 0, none⟩) (L.length + 1) c5) (uz L (S.length : Nat)) := OwnT.of_row hr5.out
    obtain ⟨A, c, e, hrd, hc, hm, -, -⟩ := hO.read
    rw [uz_len] at e
    injection e with e1 e2 e3
    subst e1 e3
    have hblk : Blk (w5.alloc (.cells #[.slice (some ⟨g5, 0, none⟩) (L.length + 1) c5] PT)) w5.heap.size PT [.slice (some ⟨g5, 0, none⟩) (L.length + 1) c5] := Blk.new w5 PT _
    have hg5 : g5 < w5.heap.size := by
      obtain ⟨ad, e, hlt, -⟩ := hrd (by intro h; have := congrArg List.length h; rw [cellsT_len, uz_len] at this; simp at this)
      cases e; exact hlt
    have hsz5 := hb5.out.size
    refine ⟨hb5.out.alloc hsz5 _, _, g5, c5, rfl, ⟨⟨L.length + 1, c5, by rw [Nat.zero_mul]; exact hblk, by rw [uz_len]; omega, by omega, by omega⟩, ⟨hc, hm⟩, (rd_self hrd).below ((box_below w5 _).mono (by omega)), by omega⟩, hsz5, hge⟩
  · obtain ⟨hL, h0⟩ := hbad.out hneg
    have t1 : decide (0 ≤ bad) = true := decide_eq_true h0
    simp only [if_neg hneg]
    clear hbad hsm hT hL
    go_enter Tryz.func125, Tryz.ntmps125
    go_wp2_with fail
    refine ht.out.mono ?_
    rintro e w2 ⟨r, rfl, ho, hb⟩
    clear ho
    have hb := hid hb
    go_wp2_with fail
    go_ret2
    exact ⟨hb.out, rfl⟩
/-- the program's own error of an expression that is not valid -/
def NotV (w : World) : Prop := ∃ p, w.cell? ⟨0, 0, none⟩ = some (.iface As.PES (.pointer p))
theorem NotV.lt {w : World} (h : NotV w) : 0 < w.heap.size := by
  obtain ⟨p, h⟩ := h
  rcases Nat.lt_or_ge 0 w.heap.size with h1 | h1
  · exact h1
  · simp [World.cell?, Array.getElem?_eq_none h1] at h
theorem NotV.below {w w' : World} (h : NotV w) (hb : Below w.heap.size w w') : NotV w' := by
  have hlt := h.lt
  obtain ⟨p, h⟩ := h
  exact ⟨p, (hb.cell hlt).trans h⟩
theorem hand_below {w w' : World} (h : As.Handle w) (hb : Below w.heap.size w w') : As.Handle w' := h.below hb h.lt
set_option maxHeartbeats 1000000 in
theorem off_hit (a : Int) (w : World) (hh : As.Handle w) : Calls Tryz.prog 85 #[errV a] w fun e w' => e = .returned (.int .i64 a) ∧ Below w.heap.size w w' := by
  have hB := Blk.new w As.SE [.int .i64 0]
  have hb1 : Below w.heap.size w (w.alloc (.cells #[.int .i64 0] As.SE)) := box_below _ _
  have hc := hid (As.as_hit a w.heap.size _ (hand_below hh hb1) hB)
  have hlt : w.heap.size < (w.alloc (.cells #[.int .i64 0] As.SE)).heap.size := hB.lt
  have hB := hid hB
  have hb1 := hid hb1
  go_enter Tryz.func85, Tryz.ntmps85
  go_wp2_with fail
  generalize (w.alloc (.cells #[.int .i64 0] As.SE)) = w1 at *
  refine hc.out.mono ?_
  rintro e w2 ⟨rfl, hw2⟩
  have b2 : Below w1.heap.size w1 ((((w1.alloc (.cells #[.pointer (some ⟨w.heap.size, 0, none⟩)] As.PSE)).alloc (.cells #[.pointer (some ⟨As.HB, As.PSE, none⟩), .pointer (some ⟨w1.heap.size, 0, none⟩), .int .u64 150] As.VT)).alloc (.cells #[.pointer (some ⟨As.HB, As.PSE, none⟩), .pointer (some ⟨w1.heap.size, 0, none⟩), .int .u64 150] As.VT)).alloc (.cells #[.int .i64 a] As.SE)) :=
    ((((Below.refl _ _).alloc (Nat.le_refl _) _).alloc (by rw [size_alloc']; omega) _).alloc (by rw [size_alloc', size_alloc']; omega) _).alloc (by rw [size_alloc', size_alloc', size_alloc']; omega) _
  have B2 := ((hB.out.below b2 hB.out.lt).set_ 0 (.int .i64 a)).cell 0
  rw [← hw2] at B2
  have b3 : Below w.heap.size w w2 := by
    rw [hw2]
    exact (hb1.out.trans (b2.mono hb1.out.size)).setCell (p := ⟨w.heap.size, 0, none⟩) (Nat.le_refl _) _
  have b3 := hid b3
  have B2 : w2.cell? ⟨w.heap.size, 0, none⟩ = some (.int .i64 a) := B2
  clear hw2 b2 hB hb1 hc hh
  go_wp2_with fail
  go_ret
  exact ⟨rfl, b3.out⟩
set_option maxHeartbeats 1000000 in
theorem off_miss (p : Option Addr) (w : World) (hh : As.Handle w) : Calls Tryz.prog 85 #[.iface As.PES (.pointer p)] w fun e w' => e = .returned (.int .i64 0) ∧ Below w.heap.size w w' := by
  have hB := Blk.new w As.SE [.int .i64 0]
  have hb1 : Below w.heap.size w (w.alloc (.cells #[.int .i64 0] As.SE)) := box_below _ _
  have hc := hid (As.as_miss p w.heap.size _ (hand_below hh hb1) hB)
  have hb1 := hid hb1
  clear hB
  go_enter Tryz.func85, Tryz.ntmps85
  go_wp2_with fail
  generalize (w.alloc (.cells #[.int .i64 0] As.SE)) = w1 at *
  refine hc.out.mono ?_
  rintro e w2 ⟨rfl, hw2⟩
  have b2 : Below w1.heap.size w1 (((w1.alloc (.cells #[.pointer (some ⟨w.heap.size, 0, none⟩)] As.PSE)).alloc (.cells #[.pointer (some ⟨As.HB, As.PSE, none⟩), .pointer (some ⟨w1.heap.size, 0, none⟩), .int .u64 150] As.VT)).alloc (.cells #[.pointer (some ⟨As.HB, As.PSE, none⟩), .pointer (some ⟨w1.heap.size, 0, none⟩), .int .u64 150] As.VT)) :=
    (((Below.refl _ _).alloc (Nat.le_refl _) _).alloc (by rw [size_alloc']; omega) _).alloc (by rw [size_alloc', size_alloc']; omega) _
  rw [← hw2] at b2
  have b3 := hid (hb1.out.trans (b2.mono hb1.out.size))
  clear hw2 b2 hb1 hc hh
  go_wp2_with fail
  go_ret
  exact ⟨rfl, b3.out⟩
end Go.Proofs.YtklcbagddijkgaaGreatDoor.Tk

/- The program's ParseExpr: whole. -/
set_option maxRecDepth 100000
namespace Go.Proofs.YtklcbagddijkgaaGreatDoor.Tk
open Go.RowKit Go.Lib Go.Sort Go.Proofs.YtklcbagddijkgaaGreatDoor.Num Go.Proofs.YtklcbagddijkgaaGreatDoor.Com Go.Proofs.YtklcbagddijkgaaGreatDoor.Mem Go.Proofs.YtklcbagddijkgaaGreatDoor.Os Go.Proofs.YtklcbagddijkgaaGreatDoor.Tr

def ErrIs (q : Except Int T) (t : T) (x : Value) : Prop := match q with
  | .ok t' => t = t' ∧ x = .nilIface
  | .error a => x = errV a ∨ (a = 0 ∧ ∃ p, x = .iface As.PES (.pointer p))
def WholeOk (S : List UInt8) (w : World) (e : Ending) (w' : World) : Prop :=
  ∃ K N s A L cc t x, e = .returned (.tuple #[nv K N s A L cc, x]) ∧ OwnE ET w' w.heap.size w'.heap.size (nv K N s A L cc) t ∧ Below w.heap.size w w' ∧ ErrIs (parseR S) t x
set_option maxHeartbeats 4000000 in
theorem whole_any (S : List UInt8) (hS : S.length ≤ 9223372036854775807) (w : World) (hnv : NotV w) : Calls Tryz.prog 84 #[.string ⟨S.toArray⟩, .func (Fn.func 40) #[] #[], .func (Fn.func 41) #[] #[]] w (WholeOk S w) := by
  have b1 : Below w.heap.size w (w.alloc (.cells #[.int .i64 0, .int .i64 0, .string ⟨#[]⟩, .slice none 0 0] ET)) := box_below _ _
  have B1 := hid (Blk.new w ET [.int .i64 0, .int .i64 0, .string ⟨#[]⟩, .slice none 0 0])
  have z1 : (w.alloc (.cells #[.int .i64 0, .int .i64 0, .string ⟨#[]⟩, .slice none 0 0] ET)).heap.size = w.heap.size + 1 := size_alloc' _ _
  have hn := newp_any S hS (w.alloc (.cells #[.int .i64 0, .int .i64 0, .string ⟨#[]⟩, .slice none 0 0] ET))
  unfold NewOk at hn
  have b1 := hid b1
  by_cases hb : (tokz S).2 = -1
  · simp only [if_pos hb] at hn
    have hn := hid hn
    have hsm := tokz_le hb
    have hgd := fun t ht => (tokz_good hsm t ht).1
    have hRe : parseR S = endR (tokz S).1 S.length (pz (tokz S).1 S.length 2000 1 0) := by unfold parseR; rw [if_pos hb]
    have h150 := tokz_len S
    clear hb
    have hgd := hid hgd
    generalize (tokz S).1 = ts at *
    generalize hen : S.length = en at *
    obtain ⟨r, hr⟩ : ∃ r, r = pz ts en 2000 1 0 := ⟨_, rfl⟩
    rw [← hr] at hRe
    replace hr := hid hr
    replace hRe := hid hRe
    go_enter Tryz.func84, Tryz.ntmps84
    go_wp2_with fail
    generalize (w.alloc (.cells #[.int .i64 0, .int .i64 0, .string ⟨#[]⟩, .slice none 0 0] ET)) = w1 at *
    refine hn.out.mono ?_
    rintro e w2 ⟨hb2, g, b, c, rfl, hp, hg, hbb⟩
    have z2 := hb2.size
    have B2 := hid (B1.out.below hb2 B1.out.lt)
    have b2 := hid (b1.out.trans (hb2.mono b1.out.size))
    have hcl := hid ((parse_all hgd.out 2000).1 2000 (Nat.le_refl _) 0 w2 hp (by unfold need; omega))
    rw [← hr.out] at hcl
    clear hb2 hn hp
    go_wp2_with fail
    refine hcl.out.mono ?_
    rintro e w3 ⟨K, N, s, A, L, cc, t, x, j, rfl, ho, hgg, hp, hR⟩
    have z3 := hgg.size
    have B3 := B2.out.gb hgg (by omega)
    have b3 : Below w.heap.size w w3 := bgb b2.out hgg (by omega) (by omega)
    have b4 : Below w3.heap.size w3 (w3.alloc (.cells #[.int .i64 K, .int .i64 N, .string ⟨s.toArray⟩, .slice A L cc] ET)) := box_below _ _
    have B4 := B3.below b4 B3.lt
    have q4 : Blk (w3.alloc (.cells #[.int .i64 K, .int .i64 N, .string ⟨s.toArray⟩, .slice A L cc] ET)) w3.heap.size ET [.int .i64 K, .int .i64 N, .string ⟨s.toArray⟩, .slice A L cc] := Blk.new w3 ET _
    have bb4 := b3.trans (b4.mono b3.size)
    have p4 := hp.below b4
    have o4 := ho.same (same_below b4 (Nat.le_refl _))
    have z4 : (w3.alloc (.cells #[.int .i64 K, .int .i64 N, .string ⟨s.toArray⟩, .slice A L cc] ET)).heap.size = w3.heap.size + 1 := size_alloc' _ _
    obtain ⟨k0, k1, k2, k3⟩ := four q4
    obtain ⟨r0, r1, r2, r3⟩ := four B4
    have y0 := B4.frozen 0
    have y1 := B4.frozen 1
    have y2 := B4.frozen 2
    have y3 := B4.frozen 3
    have hf := ans_fin B4 o4 (by omega) (by omega) bb4
    have hf1 := hid hf.1
    have hf2 := hid hf.2
    clear hf B3 b3 B2 b2 B1 b1 hgg hcl
    rcases r with a | ⟨t', j'⟩
    · obtain rfl : x = errV a := hR
      have hE : ErrIs (parseR S) t (errV a) := by rw [hRe.out]; exact Or.inl rfl
      replace hE := hid hE
      clear hRe
      clear B4 q4 bb4 p4 o4 b4 ho hp
      go_wp2_with fail
      exact bodyPost_ret (results_cell2 Tryz.results84 _ _ w.heap.size 27 _ (0, 0) _ rfl hf1.out Tryz.underlying27 rfl (by kernel_rfl)) rfl ⟨_, _, _, _, _, _, _, _, rfl, hf2.out.1, hf2.out.2, hE.out⟩
    · obtain ⟨rfl, rfl, rfl⟩ := hR
      have hadv := (pz_adv ts en 2000).1 1 0 t j hr.out.symm
      have hjl := p4.ilt
      obtain ⟨n', m', hB, hn', hn1, hm'⟩ := p4.blk
      have c0 := hB.cell 0
      have c0 : (w3.alloc (.cells #[.int .i64 K, .int .i64 N, .string ⟨s.toArray⟩, .slice A L cc] ET)).cell? ⟨g, 0, none⟩ = some (.slice (some ⟨b, j * 4, none⟩) n' m') := c0
      obtain ⟨l0, l1, l2, l3⟩ := p4.at_ hjl
      have hiv := hid (ivalidE t _ _ (o4.ex))
      have hhe := hid (here_any g b c (uz ts en) j _ p4)
      have hnv4 := hid (hnv.below (bb4))
      by_cases hlast : j < ts.length
      · have hk := good_k (hgd.out _ (List.getElem_mem hlast))
        rw [uz_at hlast] at l0
        have he : endR ts en (.ok (t, j)) = .error (errAt ts en j) := by unfold endR; simp only; rw [if_pos hlast]
        rw [errAt_uz ts en j (by omega)] at hhe
        have hE : ErrIs (parseR S) t (errV (errAt ts en j)) := by rw [hRe.out, he]; exact Or.inl rfl
        replace hE := hid hE
        have tk : (ts[j].k != 0) = true := bne_iff_ne.2 hk
        generalize ts[j].k = kk at *
        clear he hk l1 l2 l3 hB p4 o4 bb4 b4 q4 B4 ho hp hiv hnv4 hadv hr hRe
        go_wp2_with fail
        refine hhe.out.mono ?_
        rintro e w5 ⟨rfl, rfl⟩
        go_wp2_with fail
        exact bodyPost_ret (results_cell2 Tryz.results84 _ _ w.heap.size 27 _ (0, 0) _ rfl hf1.out Tryz.underlying27 rfl (by kernel_rfl)) rfl ⟨_, _, _, _, _, _, _, _, rfl, hf2.out.1, hf2.out.2, hE.out⟩
      · obtain rfl : j = ts.length := by omega
        rw [uz_end] at l0
        have he : endR ts en (.ok (t, ts.length)) = if okT t = true then .ok t else .error 0 := by unfold endR; simp only; rw [if_neg hlast]
        have hRe2 : parseR S = if okT t = true then .ok t else .error 0 := by rw [hRe.out, he]
        replace hRe2 := hid hRe2
        have hgo := hid (fun (w5 : World) (hb5 : Below (w3.alloc (.cells #[.int .i64 K, .int .i64 N, .string ⟨s.toArray⟩, .slice A L cc] ET)).heap.size (w3.alloc (.cells #[.int .i64 K, .int .i64 N, .string ⟨s.toArray⟩, .slice A L cc] ET)) w5) => (⟨B4.below hb5 B4.lt, q4.below hb5 q4.lt, o4.same (same_below hb5 (by omega)), bb4.trans (hb5.mono bb4.size), hb5.size⟩ :
          Blk w5 w.heap.size ET [.int .i64 0, .int .i64 0, .string ⟨#[]⟩, .slice none 0 0] ∧ Blk w5 w3.heap.size ET [.int .i64 K, .int .i64 N, .string ⟨s.toArray⟩, .slice A L cc] ∧ OwnE ET w5 w2.heap.size w3.heap.size (nv K N s A L cc) t ∧ Below w.heap.size w w5 ∧ (w3.alloc (.cells #[.int .i64 K, .int .i64 N, .string ⟨s.toArray⟩, .slice A L cc] ET)).heap.size ≤ w5.heap.size))
        have hnv := hid hnv
        clear he l1 l2 l3 hB p4 o4 b4 q4 ho hp hhe hadv hr B4 bb4 hnv4 r0 r1 r2 r3 y0 y1 y2 y3 hf1 hf2 hRe
        cases hok : okT t with
        | true =>
          have hE := hid (show ErrIs (parseR S) t .nilIface by rw [hRe2.out, hok]; exact ⟨rfl, rfl⟩)
          rw [hok] at hiv
          clear hRe2 hok
          go_wp2_with fail
          generalize (w3.alloc (.cells #[.int .i64 K, .int .i64 N, .string ⟨s.toArray⟩, .slice A L cc] ET)) = w4 at *
          refine hiv.out.mono ?_
          rintro e w5 ⟨rfl, hb5⟩
          obtain ⟨B5, q5, o5, b5, z5⟩ := hgo.out w5 hb5
          have hf := ans_fin B5 o5 (by omega) (by omega) b5
          have hf1 := hid hf.1
          have hf2 := hid hf.2
          obtain ⟨m0, m1, m2, m3⟩ := four q5
          obtain ⟨r0, r1, r2, r3⟩ := four B5
          have y0 := B5.frozen 0
          have y1 := B5.frozen 1
          have y2 := B5.frozen 2
          have y3 := B5.frozen 3
          clear hf B5 q5 o5 b5 hb5 hgo hiv
          go_wp2_with fail
          exact bodyPost_ret (results_cell2 Tryz.results84 _ _ w.heap.size 27 _ (0, 0) _ rfl hf1.out Tryz.underlying27 rfl (by kernel_rfl)) rfl ⟨_, _, _, _, _, _, _, _, rfl, hf2.out.1, hf2.out.2, hE.out⟩
        | false =>
          have hE := hid (fun p => show ErrIs (parseR S) t (.iface As.PES (.pointer p)) by rw [hRe2.out, hok]; exact Or.inr ⟨rfl, p, rfl⟩)
          rw [hok] at hiv
          clear hRe2 hok
          go_wp2_with fail
          generalize (w3.alloc (.cells #[.int .i64 K, .int .i64 N, .string ⟨s.toArray⟩, .slice A L cc] ET)) = w4 at *
          refine hiv.out.mono ?_
          rintro e w5 ⟨rfl, hb5⟩
          obtain ⟨B5, q5, o5, b5, z5⟩ := hgo.out w5 hb5
          obtain ⟨p, hp⟩ := hnv.out.below b5
          have hf := ans_fin B5 o5 (by omega) (by omega) b5
          have hf1 := hid hf.1
          have hf2 := hid hf.2
          obtain ⟨m0, m1, m2, m3⟩ := four q5
          obtain ⟨r0, r1, r2, r3⟩ := four B5
          have y0 := B5.frozen 0
          have y1 := B5.frozen 1
          have y2 := B5.frozen 2
          have y3 := B5.frozen 3
          clear hf B5 q5 o5 b5 hb5 hgo hiv
          go_wp2_with fail
          exact bodyPost_ret (results_cell2 Tryz.results84 _ _ w.heap.size 27 _ (0, 0) _ rfl hf1.out Tryz.underlying27 rfl (by kernel_rfl)) rfl ⟨_, _, _, _, _, _, _, _, rfl, hf2.out.1, hf2.out.2, hE.out p⟩
  · simp only [if_neg hb] at hn
    have hn := hid hn
    have hRe : parseR S = .error (tokz S).2 := by unfold parseR; rw [if_neg hb]
    generalize (tokz S).2 = bad at *
    have hE := hid (show ErrIs (parseR S) zeroT (errV bad) by rw [hRe]; exact Or.inl rfl)
    clear hRe hb
    go_enter Tryz.func84, Tryz.ntmps84
    go_wp2_with fail
    generalize (w.alloc (.cells #[.int .i64 0, .int .i64 0, .string ⟨#[]⟩, .slice none 0 0] ET)) = w1 at *
    refine hn.out.mono ?_
    rintro e w2 ⟨hb2, rfl⟩
    have z2 := hb2.size
    have b3 := box_below w2 (.cells #[.int .i64 0, .int .i64 0, .string ⟨#[]⟩, .slice none 0 0] ET)
    have z3 : (w2.alloc (.cells #[.int .i64 0, .int .i64 0, .string ⟨#[]⟩, .slice none 0 0] ET)).heap.size = w2.heap.size + 1 := size_alloc' _ _
    have q3 := Blk.new w2 ET [.int .i64 0, .int .i64 0, .string ⟨#[]⟩, .slice none 0 0]
    have B2 := (B1.out.below hb2 B1.out.lt).below b3 (B1.out.below hb2 B1.out.lt).lt
    have b2 := (b1.out.trans (hb2.mono b1.out.size)).trans (b3.mono (by have := b1.out.size; omega))
    obtain ⟨k0, k1, k2, k3⟩ := four q3
    obtain ⟨r0, r1, r2, r3⟩ := four B2
    have y0 := B2.frozen 0
    have y1 := B2.frozen 1
    have y2 := B2.frozen 2
    have y3 := B2.frozen 3
    have hf := ans_fin (K := 0) (N := 0) (s := []) B2 (OwnE.leaf (w2.alloc (.cells #[.int .i64 0, .int .i64 0, .string ⟨#[]⟩, .slice none 0 0] ET)) (w.heap.size + 1) (w.heap.size + 1)) (Nat.lt_succ_self _) B2.lt b2
    have hf1 := hid hf.1
    have hf2 := hid hf.2
    clear hf B2 b2 B1 b1 hb2 hn q3 b3
    go_wp2_with fail
    exact bodyPost_ret (results_cell2 Tryz.results84 _ _ w.heap.size 27 _ (0, 0) _ rfl hf1.out Tryz.underlying27 rfl (by kernel_rfl)) rfl ⟨_, _, _, _, _, _, _, _, rfl, hf2.out.1, hf2.out.2, hE.out⟩
end Go.Proofs.YtklcbagddijkgaaGreatDoor.Tk

/- The program's reading of a whole source, and the offset of an error: of expressions. -/
set_option maxRecDepth 100000
namespace Go.Proofs.YtklcbagddijkgaaGreatDoor.Tk
open Go.RowKit Go.Lib Go.Sort Go.Proofs.YtklcbagddijkgaaGreatDoor.Num Go.Proofs.YtklcbagddijkgaaGreatDoor.Com Go.Proofs.YtklcbagddijkgaaGreatDoor.Mem Go.Proofs.YtklcbagddijkgaaGreatDoor.Os Go.Proofs.YtklcbagddijkgaaGreatDoor.Tr
set_option maxHeartbeats 4000000 in
theorem pwhole_any (S : List UInt8) (hS : S.length ≤ 9223372036854775807) (w : World) (hnv : NotV w) (hh : As.Handle w) : Calls Tryz.prog 39 #[.string ⟨S.toArray⟩, .func (Fn.func 40) #[] #[], .func (Fn.func 41) #[] #[]] w (ParseOk S w) := by
  have b1 : Below w.heap.size w (w.alloc (.cells #[.int .i64 0, .int .i64 0, .string ⟨#[]⟩, .slice none 0 0] ET)) := box_below _ _
  have B1 := hid (Blk.new w ET [.int .i64 0, .int .i64 0, .string ⟨#[]⟩, .slice none 0 0])
  have z1 : (w.alloc (.cells #[.int .i64 0, .int .i64 0, .string ⟨#[]⟩, .slice none 0 0] ET)).heap.size = w.heap.size + 1 := size_alloc' _ _
  have hn := whole_any S hS (w.alloc (.cells #[.int .i64 0, .int .i64 0, .string ⟨#[]⟩, .slice none 0 0] ET)) (hnv.below b1)
  have hn := hid hn
  have b1 := hid b1
  have hh := hid hh
  go_enter Tryz.func39, Tryz.ntmps39
  go_wp2_with fail
  generalize (w.alloc (.cells #[.int .i64 0, .int .i64 0, .string ⟨#[]⟩, .slice none 0 0] ET)) = w1 at *
  refine hn.out.mono ?_
  rintro e w2 ⟨K, N, s, A, L, cc, t, x, rfl, ho, hb, hE⟩
  have z2 := hb.size
  have B2 := B1.out.below hb B1.out.lt
  have b2 := b1.out.trans (hb.mono b1.out.size)
  have b3 : Below w2.heap.size w2 (w2.alloc (.cells #[.int .i64 K, .int .i64 N, .string ⟨s.toArray⟩, .slice A L cc] ET)) := box_below _ _
  have z3 : (w2.alloc (.cells #[.int .i64 K, .int .i64 N, .string ⟨s.toArray⟩, .slice A L cc] ET)).heap.size = w2.heap.size + 1 := size_alloc' _ _
  have B3 := B2.below b3 B2.lt
  have q3 : Blk (w2.alloc (.cells #[.int .i64 K, .int .i64 N, .string ⟨s.toArray⟩, .slice A L cc] ET)) w2.heap.size ET [.int .i64 K, .int .i64 N, .string ⟨s.toArray⟩, .slice A L cc] := Blk.new w2 ET _
  have bb3 := b2.trans (b3.mono b2.size)
  have o3 := ho.same (same_below b3 (Nat.le_refl _))
  have hh3 := hid (hand_below hh.out bb3)
  clear hb ho b3 b2 B2 b1 B1 hn
  cases hP : parseR S with
  | ok t' =>
    rw [hP] at hE
    obtain ⟨rfl, rfl⟩ := hE
    have hV := hid (parseV_ok hP)
    have hf := ans_fin B3 o3 (by omega) (by omega) bb3
    have hf1 := hid hf.1
    have hf2 := hid hf.2
    obtain ⟨m0, m1, m2, m3⟩ := four q3
    obtain ⟨r0, r1, r2, r3⟩ := four B3
    have y0 := B3.frozen 0
    have y1 := B3.frozen 1
    have y2 := B3.frozen 2
    have y3 := B3.frozen 3
    clear hf B3 q3 o3 bb3 hP
    go_wp2_with fail
    exact bodyPost_ret (results_cell2 Tryz.results39 _ _ w.heap.size 27 _ (0, 0) _ rfl hf1.out Tryz.underlying27 rfl (by kernel_rfl)) rfl ⟨_, _, _, _, _, _, by rw [hV.out]; rfl, by rw [hV.out]; exact hf2.out.1, hf2.out.2⟩
  | error a =>
    rw [hP] at hE
    have hV := hid (parseV_err hP)
    have B3 := hid B3
    have bb3 := hid bb3
    clear hP o3 q3
    have off : ∀ w4, Calls Tryz.prog 85 #[x] w4 (fun e w' => e = .returned (.int .i64 a) ∧ Below w4.heap.size w4 w') ∨ ¬ As.Handle w4 := fun w4 => by
      by_cases h : As.Handle w4
      · left
        rcases hE with rfl | ⟨rfl, p, rfl⟩
        · exact off_hit a _ h
        · exact off_miss p _ h
      · exact Or.inr h
    have off := hid (fun w4 (h : As.Handle w4) => (off w4).resolve_right fun hn => hn h)
    obtain ⟨xT, xv, rfl⟩ : ∃ T v, x = .iface T v := by
      rcases hE with rfl | ⟨_, p, rfl⟩
      · exact ⟨_, _, rfl⟩
      · exact ⟨_, _, rfl⟩
    clear hE
    go_wp2_with fail
    generalize (w2.alloc (.cells #[.int .i64 K, .int .i64 N, .string ⟨s.toArray⟩, .slice A L cc] ET)) = w3 at *
    have b4 := box_below w3 (.cells #[.int .i64 0, .int .i64 0, .string ⟨#[]⟩, .slice none 0 0] ET)
    have z4 : (w3.alloc (.cells #[.int .i64 0, .int .i64 0, .string ⟨#[]⟩, .slice none 0 0] ET)).heap.size = w3.heap.size + 1 := size_alloc' _ _
    have q4 : Blk (w3.alloc (.cells #[.int .i64 0, .int .i64 0, .string ⟨#[]⟩, .slice none 0 0] ET)) (w2.heap.size + 1) ET [.int .i64 0, .int .i64 0, .string ⟨#[]⟩, .slice none 0 0] := by rw [← z3]; exact Blk.new w3 ET _
    have B4 := hid (B3.out.below b4 B3.out.lt)
    have bb4 := hid (bb3.out.trans (b4.mono bb3.out.size))
    have h4 := hid (hand_below (hand_below hh3.out b4) ((Below.refl _ _).drew))
    obtain ⟨k0, k1, k2, k3⟩ := four q4
    replace q4 := hid q4
    clear b4 B3 bb3 hh3 hn hh b1
    generalize (w3.alloc (.cells #[.int .i64 0, .int .i64 0, .string ⟨#[]⟩, .slice none 0 0] ET)) = w4 at *
    have step : ∀ W, Below w4.drew.heap.size w4.drew W → Hid (Blk W (w2.heap.size + 1) ET [.int .i64 0, .int .i64 0, .string ⟨#[]⟩, .slice none 0 0]) ∧ Hid (Blk W w.heap.size ET [.int .i64 0, .int .i64 0, .string ⟨#[]⟩, .slice none 0 0]) ∧ Hid (Below w.heap.size w W) := fun W hW => by
      have hW' : Below w4.heap.size w4 W := (Below.refl _ w4).drew.trans hW
      exact ⟨hid (q4.out.below hW' q4.out.lt), hid (B4.out.below hW' B4.out.lt), hid (bb4.out.trans (hW'.mono bb4.out.size))⟩
    go_region_with (first
      | (go_at_call 85; refine (off.out _ h4.out).mono ?_; rintro e w5 ⟨rfl, hb⟩; obtain ⟨Q5, B5, bb5⟩ := step w5 hb; obtain ⟨n0, n1, n2, n3⟩ := four Q5.out; obtain ⟨r0, r1, r2, r3⟩ := four B5.out; have y0 := B5.out.frozen 0; have y1 := B5.out.frozen 1; have y2 := B5.out.frozen 2; have y3 := B5.out.frozen 3))
    all_goals
      have hf := ans_fin (K := 0) (N := 0) (s := []) B5.out (OwnE.leaf w5 (w.heap.size + 1) (w.heap.size + 1)) (Nat.lt_succ_self _) B5.out.lt bb5.out
      have hf1 := hid hf.1
      have hf2 := hid hf.2
      clear hf step q4 Q5 B5 bb5 n0 n1 n2 n3 r0 r1 r2 r3 y0 y1 y2 y3 k0 k1 k2 k3 off
      go_wp2_with fail
      exact bodyPost_ret (results_cell2 Tryz.results39 _ _ w.heap.size 27 _ (0, 0) _ rfl hf1.out Tryz.underlying27 rfl (by kernel_rfl)) rfl ⟨_, _, _, _, _, _, by rw [hV.out]; rfl, by rw [hV.out]; exact hf2.out.1, hf2.out.2⟩
end Go.Proofs.YtklcbagddijkgaaGreatDoor.Tk

/- The program's ParseExpr by its contract. -/
set_option maxRecDepth 100000
namespace Go.Proofs.YtklcbagddijkgaaGreatDoor.Tk
open Go.RowKit Go.Lib Go.Sort Go.Proofs.YtklcbagddijkgaaGreatDoor.Num Go.Proofs.YtklcbagddijkgaaGreatDoor.Com Go.Proofs.YtklcbagddijkgaaGreatDoor.Mem Go.Proofs.YtklcbagddijkgaaGreatDoor.Os Go.Proofs.YtklcbagddijkgaaGreatDoor.Tr
set_option maxHeartbeats 2000000 in
theorem iparse_any (S : List UInt8) (hS : S.length ≤ 9223372036854775807) (w : World) (hnv : NotV w) (hh : As.Handle w) : Calls Tryz.prog 12 #[.string ⟨S.toArray⟩] w (ParseOk S w) := by
  have b1 : Below w.heap.size w (w.alloc (.cells #[.int .i64 0, .int .i64 0, .string ⟨#[]⟩, .slice none 0 0] ET)) := box_below _ _
  have B1 := hid (Blk.new w ET [.int .i64 0, .int .i64 0, .string ⟨#[]⟩, .slice none 0 0])
  have z1 : (w.alloc (.cells #[.int .i64 0, .int .i64 0, .string ⟨#[]⟩, .slice none 0 0] ET)).heap.size = w.heap.size + 1 := size_alloc' _ _
  have hn := hid (pwhole_any S hS (w.alloc (.cells #[.int .i64 0, .int .i64 0, .string ⟨#[]⟩, .slice none 0 0] ET)) (hnv.below b1) (hand_below hh b1))
  have b1 := hid b1
  clear hnv hh
  go_enter Tryz.func12, Tryz.ntmps12
  go_wp2_with fail
  generalize (w.alloc (.cells #[.int .i64 0, .int .i64 0, .string ⟨#[]⟩, .slice none 0 0] ET)) = w1 at *
  refine hn.out.mono ?_
  rintro e w2 ⟨K, N, s, A, L, cc, rfl, ho, hb⟩
  have z2 := hb.size
  have B2 := B1.out.below hb B1.out.lt
  have b2 := b1.out.trans (hb.mono b1.out.size)
  have hf := ans_fin B2 ho (by omega) (Nat.le_refl _) b2
  have hf1 := hid hf.1
  have hf2 := hid hf.2
  obtain ⟨r0, r1, r2, r3⟩ := four B2
  have y0 := B2.frozen 0
  have y1 := B2.frozen 1
  have y2 := B2.frozen 2
  have y3 := B2.frozen 3
  clear hf B2 b2 hb ho hn B1 b1
  go_wp2_with fail
  exact bodyPost_ret (results_cell2 Tryz.results12 _ _ w.heap.size 27 _ (0, 0) _ rfl hf1.out Tryz.underlying27 rfl (by kernel_rfl)) rfl ⟨_, _, _, _, _, _, rfl, hf2.out.1, hf2.out.2⟩
end Go.Proofs.YtklcbagddijkgaaGreatDoor.Tk
