/- The program's ParseExpr: whole. -/
import Derived.Test.YtjglllpemhkkdaaGreatDoorZSt4
import Derived.Test.YtjglllpemhkkdaaGreatDoorZDr4
set_option maxRecDepth 100000
namespace Go.Proofs.YtjglllpemhkkdaaGreatDoor.Tk
open Go.RowKit Go.Lib Go.Sort Num Com Mem YtjglllpemhkkdaaGreatDoor.Os Tr

def ErrIs (q : Except Int T) (t : T) (x : Value) : Prop := match q with
  | .ok t' => t = t' ∧ x = .nilIface
  | .error a => x = errV a ∨ (a = 0 ∧ ∃ p, x = .iface As.PES (.pointer p))
def WholeOk (S : List UInt8) (w : World) (e : Ending) (w' : World) : Prop :=
  ∃ K N s A L cc t x, e = .returned (.tuple #[nv K N s A L cc, x]) ∧ OwnE ET w' w.heap.size w'.heap.size (nv K N s A L cc) t ∧ Below w.heap.size w w' ∧ ErrIs (parseR S) t x
set_option maxHeartbeats 4000000 in
theorem whole_any (S : List UInt8) (hS : S.length ≤ 9223372036854775807) (w : World) (hnv : NotV w) : Calls Tryz.prog 94 #[.string ⟨S.toArray⟩, .func (Fn.func 46) #[] #[], .func (Fn.func 47) #[] #[]] w (WholeOk S w) := by
  have b1 : Below w.heap.size w (w.alloc (.cells #[.int .i64 0, .int .i64 0, .string ⟨#[]⟩, .slice none 0 0] ET)) := box_below _ _
  have B1 := hid (Blk.new w ET [.int .i64 0, .int .i64 0, .string ⟨#[]⟩, .slice none 0 0])
  have z1 : (w.alloc (.cells #[.int .i64 0, .int .i64 0, .string ⟨#[]⟩, .slice none 0 0] ET)).heap.size = w.heap.size + 1 := size_alloc' _ _
  have hn := newp_any S hS (w.alloc (.cells #[.int .i64 0, .int .i64 0, .string ⟨#[]⟩, .slice none 0 0] ET))
  unfold NewOk at hn
  have b1 := hid b1
  by_cases hb : (tokz S).2 = -1
  · simp only [if_pos hb] at hn
    have hn := hid hn
    have hsm := tokz_le hb
    have hgd := fun t ht => (tokz_good hsm t ht).1
    have hRe : parseR S = endR (tokz S).1 S.length (pz (tokz S).1 S.length 2000 1 0) := by unfold parseR; rw [if_pos hb]
    have h150 := tokz_len S
    clear hb
    have hgd := hid hgd
    generalize (tokz S).1 = ts at *
    generalize hen : S.length = en at *
    obtain ⟨r, hr⟩ : ∃ r, r = pz ts en 2000 1 0 := ⟨_, rfl⟩
    rw [← hr] at hRe
    replace hr := hid hr
    replace hRe := hid hRe
    go_enter Tryz.func94, Tryz.ntmps94
    go_wp2_with fail
    generalize (w.alloc (.cells #[.int .i64 0, .int .i64 0, .string ⟨#[]⟩, .slice none 0 0] ET)) = w1 at *
    refine hn.out.mono ?_
    rintro e w2 ⟨hb2, g, b, c, rfl, hp, hg, hbb⟩
    have z2 := hb2.size
    have B2 := hid (B1.out.below hb2 B1.out.lt)
    have b2 := hid (b1.out.trans (hb2.mono b1.out.size))
    have hcl := hid ((parse_all hgd.out 2000).1 2000 (Nat.le_refl _) 0 w2 hp (by unfold need; omega))
    rw [← hr.out] at hcl
    clear hb2 hn hp
    go_wp2_with fail
    refine hcl.out.mono ?_
    rintro e w3 ⟨K, N, s, A, L, cc, t, x, j, rfl, ho, hgg, hp, hR⟩
    have z3 := hgg.size
    have B3 := B2.out.gb hgg (by omega)
    have b3 : Below w.heap.size w w3 := bgb b2.out hgg (by omega) (by omega)
    have b4 : Below w3.heap.size w3 (w3.alloc (.cells #[.int .i64 K, .int .i64 N, .string ⟨s.toArray⟩, .slice A L cc] ET)) := box_below _ _
    have B4 := B3.below b4 B3.lt
    have q4 : Blk (w3.alloc (.cells #[.int .i64 K, .int .i64 N, .string ⟨s.toArray⟩, .slice A L cc] ET)) w3.heap.size ET [.int .i64 K, .int .i64 N, .string ⟨s.toArray⟩, .slice A L cc] := Blk.new w3 ET _
    have bb4 := b3.trans (b4.mono b3.size)
    have p4 := hp.below b4
    have o4 := ho.same (same_below b4 (Nat.le_refl _))
    have z4 : (w3.alloc (.cells #[.int .i64 K, .int .i64 N, .string ⟨s.toArray⟩, .slice A L cc] ET)).heap.size = w3.heap.size + 1 := size_alloc' _ _
    obtain ⟨k0, k1, k2, k3⟩ := four q4
    obtain ⟨r0, r1, r2, r3⟩ := four B4
    have y0 := B4.frozen 0
    have y1 := B4.frozen 1
    have y2 := B4.frozen 2
    have y3 := B4.frozen 3
    have hf := ans_fin B4 o4 (by omega) (by omega) bb4
    have hf1 := hid hf.1
    have hf2 := hid hf.2
    clear hf B3 b3 B2 b2 B1 b1 hgg hcl
    rcases r with a | ⟨t', j'⟩
    · obtain rfl : x = errV a := hR
      have hE : ErrIs (parseR S) t (errV a) := by rw [hRe.out]; exact Or.inl rfl
      replace hE := hid hE
      clear hRe
      clear B4 q4 bb4 p4 o4 b4 ho hp
      go_wp2_with fail
      exact bodyPost_ret (results_cell2 Tryz.results94 _ _ w.heap.size 29 _ (0, 0) _ rfl hf1.out Tryz.underlying29 rfl (by kernel_rfl)) rfl ⟨_, _, _, _, _, _, _, _, rfl, hf2.out.1, hf2.out.2, hE.out⟩
    · obtain ⟨rfl, rfl, rfl⟩ := hR
      have hadv := (pz_adv ts en 2000).1 1 0 t j hr.out.symm
      have hjl := p4.ilt
      obtain ⟨n', m', hB, hn', hn1, hm'⟩ := p4.blk
      have c0 := hB.cell 0
      have c0 : (w3.alloc (.cells #[.int .i64 K, .int .i64 N, .string ⟨s.toArray⟩, .slice A L cc] ET)).cell? ⟨g, 0, none⟩ = some (.slice (some ⟨b, j * 4, none⟩) n' m') := c0
      obtain ⟨l0, l1, l2, l3⟩ := p4.at_ hjl
      have hiv := hid (ivalidE t _ _ (o4.ex))
      have hhe := hid (here_any g b c (uz ts en) j _ p4)
      have hnv4 := hid (hnv.below (bb4))
      by_cases hlast : j < ts.length
      · have hk := good_k (hgd.out _ (List.getElem_mem hlast))
        rw [uz_at hlast] at l0
        have he : endR ts en (.ok (t, j)) = .error (errAt ts en j) := by unfold endR; simp only; rw [if_pos hlast]
        rw [errAt_uz ts en j (by omega)] at hhe
        have hE : ErrIs (parseR S) t (errV (errAt ts en j)) := by rw [hRe.out, he]; exact Or.inl rfl
        replace hE := hid hE
        have tk : (ts[j].k != 0) = true := bne_iff_ne.2 hk
        generalize ts[j].k = kk at *
        clear he hk l1 l2 l3 hB p4 o4 bb4 b4 q4 B4 ho hp hiv hnv4 hadv hr hRe
        go_wp2_with fail
        refine hhe.out.mono ?_
        rintro e w5 ⟨rfl, rfl⟩
        go_wp2_with fail
        exact bodyPost_ret (results_cell2 Tryz.results94 _ _ w.heap.size 29 _ (0, 0) _ rfl hf1.out Tryz.underlying29 rfl (by kernel_rfl)) rfl ⟨_, _, _, _, _, _, _, _, rfl, hf2.out.1, hf2.out.2, hE.out⟩
      · obtain rfl : j = ts.length := by omega
        rw [uz_end] at l0
        have he : endR ts en (.ok (t, ts.length)) = if okT t = true then .ok t else .error 0 := by unfold endR; simp only; rw [if_neg hlast]
        have hRe2 : parseR S = if okT t = true then .ok t else .error 0 := by rw [hRe.out, he]
        replace hRe2 := hid hRe2
        have hgo := hid (fun (w5 : World) (hb5 : Below (w3.alloc (.cells #[.int .i64 K, .int .i64 N, .string ⟨s.toArray⟩, .slice A L cc] ET)).heap.size (w3.alloc (.cells #[.int .i64 K, .int .i64 N, .string ⟨s.toArray⟩, .slice A L cc] ET)) w5) => (⟨B4.below hb5 B4.lt, q4.below hb5 q4.lt, o4.same (same_below hb5 (by omega)), bb4.trans (hb5.mono bb4.size), hb5.size⟩ :
          Blk w5 w.heap.size ET [.int .i64 0, .int .i64 0, .string ⟨#[]⟩, .slice none 0 0] ∧ Blk w5 w3.heap.size ET [.int .i64 K, .int .i64 N, .string ⟨s.toArray⟩, .slice A L cc] ∧ OwnE ET w5 w2.heap.size w3.heap.size (nv K N s A L cc) t ∧ Below w.heap.size w w5 ∧ (w3.alloc (.cells #[.int .i64 K, .int .i64 N, .string ⟨s.toArray⟩, .slice A L cc] ET)).heap.size ≤ w5.heap.size))
        have hnv := hid hnv
        clear he l1 l2 l3 hB p4 o4 b4 q4 ho hp hhe hadv hr B4 bb4 hnv4 r0 r1 r2 r3 y0 y1 y2 y3 hf1 hf2 hRe
        cases hok : okT t with
        | true =>
          have hE := hid (show ErrIs (parseR S) t .nilIface by rw [hRe2.out, hok]; exact ⟨rfl, rfl⟩)
          rw [hok] at hiv
          clear hRe2 hok
          go_wp2_with fail
          generalize (w3.alloc (.cells #[.int .i64 K, .int .i64 N, .string ⟨s.toArray⟩, .slice A L cc] ET)) = w4 at *
          refine hiv.out.mono ?_
          rintro e w5 ⟨rfl, hb5⟩
          obtain ⟨B5, q5, o5, b5, z5⟩ := hgo.out w5 hb5
          have hf := ans_fin B5 o5 (by omega) (by omega) b5
          have hf1 := hid hf.1
          have hf2 := hid hf.2
          obtain ⟨m0, m1, m2, m3⟩ := four q5
          obtain ⟨r0, r1, r2, r3⟩ := four B5
          have y0 := B5.frozen 0
          have y1 := B5.frozen 1
          have y2 := B5.frozen 2
          have y3 := B5.frozen 3
          clear hf B5 q5 o5 b5 hb5 hgo hiv
          go_wp2_with fail
          exact bodyPost_ret (results_cell2 Tryz.results94 _ _ w.heap.size 29 _ (0, 0) _ rfl hf1.out Tryz.underlying29 rfl (by kernel_rfl)) rfl ⟨_, _, _, _, _, _, _, _, rfl, hf2.out.1, hf2.out.2, hE.out⟩
        | false =>
          have hE := hid (fun p => show ErrIs (parseR S) t (.iface As.PES (.pointer p)) by rw [hRe2.out, hok]; exact Or.inr ⟨rfl, p, rfl⟩)
          rw [hok] at hiv
          clear hRe2 hok
          go_wp2_with fail
          generalize (w3.alloc (.cells #[.int .i64 K, .int .i64 N, .string ⟨s.toArray⟩, .slice A L cc] ET)) = w4 at *
          refine hiv.out.mono ?_
          rintro e w5 ⟨rfl, hb5⟩
          obtain ⟨B5, q5, o5, b5, z5⟩ := hgo.out w5 hb5
          obtain ⟨p, hp⟩ := hnv.out.below b5
          have hf := ans_fin B5 o5 (by omega) (by omega) b5
          have hf1 := hid hf.1
          have hf2 := hid hf.2
          obtain ⟨m0, m1, m2, m3⟩ := four q5
          obtain ⟨r0, r1, r2, r3⟩ := four B5
          have y0 := B5.frozen 0
          have y1 := B5.frozen 1
          have y2 := B5.frozen 2
          have y3 := B5.frozen 3
          clear hf B5 q5 o5 b5 hb5 hgo hiv
          go_wp2_with fail
          exact bodyPost_ret (results_cell2 Tryz.results94 _ _ w.heap.size 29 _ (0, 0) _ rfl hf1.out Tryz.underlying29 rfl (by kernel_rfl)) rfl ⟨_, _, _, _, _, _, _, _, rfl, hf2.out.1, hf2.out.2, hE.out p⟩
  · simp only [if_neg hb] at hn
    have hn := hid hn
    have hRe : parseR S = .error (tokz S).2 := by unfold parseR; rw [if_neg hb]
    generalize (tokz S).2 = bad at *
    have hE := hid (show ErrIs (parseR S) zeroT (errV bad) by rw [hRe]; exact Or.inl rfl)
    clear hRe hb
    go_enter Tryz.func94, Tryz.ntmps94
    go_wp2_with fail
    generalize (w.alloc (.cells #[.int .i64 0, .int .i64 0, .string ⟨#[]⟩, .slice none 0 0] ET)) = w1 at *
    refine hn.out.mono ?_
    rintro e w2 ⟨hb2, rfl⟩
    have z2 := hb2.size
    have b3 := box_below w2 (.cells #[.int .i64 0, .int .i64 0, .string ⟨#[]⟩, .slice none 0 0] ET)
    have z3 : (w2.alloc (.cells #[.int .i64 0, .int .i64 0, .string ⟨#[]⟩, .slice none 0 0] ET)).heap.size = w2.heap.size + 1 := size_alloc' _ _
    have q3 := Blk.new w2 ET [.int .i64 0, .int .i64 0, .string ⟨#[]⟩, .slice none 0 0]
    have B2 := (B1.out.below hb2 B1.out.lt).below b3 (B1.out.below hb2 B1.out.lt).lt
    have b2 := (b1.out.trans (hb2.mono b1.out.size)).trans (b3.mono (by have := b1.out.size; omega))
    obtain ⟨k0, k1, k2, k3⟩ := four q3
    obtain ⟨r0, r1, r2, r3⟩ := four B2
    have y0 := B2.frozen 0
    have y1 := B2.frozen 1
    have y2 := B2.frozen 2
    have y3 := B2.frozen 3
    have hf := ans_fin (K := 0) (N := 0) (s := []) B2 (OwnE.leaf (w2.alloc (.cells #[.int .i64 0, .int .i64 0, .string ⟨#[]⟩, .slice none 0 0] ET)) (w.heap.size + 1) (w.heap.size + 1)) (Nat.lt_succ_self _) B2.lt b2
    have hf1 := hid hf.1
    have hf2 := hid hf.2
    clear hf B2 b2 B1 b1 hb2 hn q3 b3
    go_wp2_with fail
    exact bodyPost_ret (results_cell2 Tryz.results94 _ _ w.heap.size 29 _ (0, 0) _ rfl hf1.out Tryz.underlying29 rfl (by kernel_rfl)) rfl ⟨_, _, _, _, _, _, _, _, rfl, hf2.out.1, hf2.out.2, hE.out⟩
end Go.Proofs.YtjglllpemhkkdaaGreatDoor.Tk

/- Chapter 4's draws: expressions that need not be valid. -/
set_option maxRecDepth 100000
namespace Go.Proofs.YtjglllpemhkkdaaGreatDoor.Dr
open Go.RowKit Go.Lib Com Mem Cur YtjglllpemhkkdaaGreatDoor.Os Tr

theorem own_root {ty : TypeId} {w : World} {lo hi : Nat} {k n : Int} {s : List UInt8} {A : Option Addr} {l c : Nat} {ks : List T} (h : OwnE ty w lo hi (nv k n s A l c) (.mk k n s ks)) (k' n' : Int) (s' : List UInt8) (hs' : s'.length ≤ 9223372036854775807) :
    OwnE ty w lo hi (nv k' n' s' A l c) (.mk k' n' s' ks) := by
  cases h with
  | mk A c vs ls hs hsl hkl hA hin hdis hk => exact .mk A c vs ls hs hs' hkl hA hin hdis hk
end Go.Proofs.YtjglllpemhkkdaaGreatDoor.Dr
