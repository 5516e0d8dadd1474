/- The program's FormatStmts by its contract. -/
import Derived.Test.YtiogceepjffmkaaGreatDoorYFn10
import Derived.Test.YtiogceepjffmkaaGreatDoorYSr
set_option maxHeartbeats 4000000
set_option maxRecDepth 100000
namespace Go.Proofs.YtiogceepjffmkaaGreatDoor.Gp
open Go.RowKit Go.Lib Go.Sort Com Mem Ow YtiogceepjffmkaaGreatDoor.Os Tr Tk Im Ag Pl Kd Gs Gd
theorem own_rowG {e lo : Nat} {w : World} {v : Value} {xs : List Value} (h : w.ownsRow lo e 1 v xs.length xs) : Os.Own e lo w.heap.size w v xs := by
  rcases h.2 with ⟨hv, hn⟩ | ⟨g, c, cur, hv, hb, hblk, hnc, hcm, _, ht⟩
  · have hx := List.eq_nil_of_length_eq_zero hn
    subst hx
    exact ⟨none, 0, [], hv, Nat.le_refl _, Nat.zero_le _, fun _ => ⟨rfl, rfl⟩, (fun ad e => by cases e), rfl⟩
  · refine ⟨some ⟨g, 0, none⟩, c, cur.toList, hv, hnc, hcm, (fun e => by cases e), (fun ad e => ?_), by simpa using ht⟩
    cases e
    exact ⟨rfl, hb, (Array.getElem?_eq_some_iff.1 hblk).1, by unfold Blk; rw [Array.toArray_toList]; exact hblk⟩
theorem tJ_mem {L : List St} {m : Nat} {t : St} (h : L[m]? = some t) : (tSt t).length ≤ (tJ L).length := by
  obtain ⟨hm, rfl⟩ := List.getElem?_eq_some_iff.1 h
  have := tJ_le hm
  omega
theorem iformatL (A : Option Addr) (c : Nat) (L : List St) (w : World) (h : LA (pln w) w.heap.size ⟨A, c, L⟩) (hs : shbL L) (hp : L1b.Pow w) (hc : cntL L ≤ 1100000) (hl : (tJ L).length ≤ 100000000000) :
    Calls Tryz.prog 11 #[.slice A L.length c] w fun e w' => ∃ v, e = .returned v ∧ Grow 9 w w' v ((tL L).map sv) := by
  have hln := len_cntL L
  have hnode := hid (fun (m : Nat) (t : St) (hm : L[m]? = some t) (W : World) (hW : Below w.heap.size w W) => la_node h hW hm)
  have hfm := hid (fun (m : Nat) (t : St) (hm : L[m]? = some t) v0 v1 v2 v3 v4 v5 v6 v7 (W : World) (hr : RdN (pln W) W.heap.size [v0, v1, v2, v3, v4, v5, v6, v7] t) (hW : Below w.heap.size w W) => iformat1 t v0 v1 v2 v3 v4 v5 v6 v7 W hr (shbL_get hs hm) (hp.below hW) (by have := cntSt_mem (List.mem_of_getElem? hm); omega) (by have := tJ_mem hm; omega))
  obtain ⟨n, hn⟩ : ∃ n, L.length = n := ⟨_, rfl⟩
  rw [hn] at hln ⊢
  replace hn := hid hn
  clear h hs hp hl
  go_enter Tryz.func11, Tryz.ntmps11
  go_wp2_with fail
  go_loopw [8, 3] (fun i v wr => ∃ m : Nat, m ≤ n ∧ i = .int .i64 (m : Nat) ∧ Grow 9 w wr v ((tL (L.take m)).map sv)) (fun i _ _ => n - (Go.RowKit.intOf i).toNat)
  case atStart => exact ⟨0, Nat.zero_le _, rfl, by simpa [tL] using Grow.nil_ w 9 (Below.refl _ _)⟩
  case round =>
    obtain ⟨m, hm, rfl, hG⟩ := hrel
    by_cases hlt : m < n
    · obtain ⟨t, ht⟩ : ∃ t, L[m]? = some t := ⟨_, List.getElem?_eq_getElem (by rw [hn.out]; exact hlt)⟩
      obtain ⟨ad, nk, ns, ek, en, es, nA, nl, nc, qA, ql, qc, oA, ol, oc, hA, hld, hrd⟩ := hnode.out m t ht wr hG.2
      have hA : A = some ad := hA
      subst hA
      obtain ⟨p0, p1, p2, p3, p4, p5, p6, p7⟩ := ldC_at hld
      have t1 : (m : Int) < (n : Int) := by omega
      have hbx := box_below wr (.cells #[.int .i64 nk, sv ns, .int .i64 ek, .int .i64 en, sv es, .slice nA nl nc, .slice qA ql qc, .slice oA ol oc] 60)
      have hBx := hid (Blk.new wr 60 [.int .i64 nk, sv ns, .int .i64 ek, .int .i64 en, sv es, .slice nA nl nc, .slice qA ql qc, .slice oA ol oc])
      have hG2 := hG.below hbx (Nat.le_refl _)
      have hcl := hid (hfm.out m t ht _ _ _ _ _ _ _ _ _ (rdN_go hrd hG2.2) hG2.2)
      have hst := hid (show (tL (L.take (m + 1))).map sv = (tL (L.take m)).map sv ++ [sv (tSt t)] by
        rw [List.take_add_one, ht]; simp [tL])
      have hq : ((tL (L.take m)).map sv).length < 1000000000000 := by have := List.length_take_le m L; rw [List.length_map, tL_len]; omega
      obtain ⟨k0, k1, k2, k3, k4, k5, k6, k7⟩ := eight hBx.out
      replace hG2 := hid hG2
      generalize tSt t = x at *
      clear hG hld hrd hbx
      go_wp2_with fail
      generalize (wr.alloc (.cells #[.int .i64 nk, sv ns, .int .i64 ek, .int .i64 en, sv es, .slice nA nl nc, .slice qA ql qc, .slice oA ol oc] 60)) = w1 at *
      refine hcl.out.mono ?_
      rintro e2 w2 ⟨rfl, hb2⟩
      have hG3 := hid (hG2.out.below hb2 (Nat.le_refl _))
      clear hb2 hcl k0 k1 k2 k3 k4 k5 k6 k7 p0 p1 p2 p3 p4 p5 p6 p7 hG2
      go_wp2_with (at_builtin; refine hG3.out.append strT (sv x) rfl hq rfl _ _ rfl rfl rfl ?_; intro v5 w5 hG5 _ _; replace hG5 := hid hG5)
      exact ⟨⟨m + 1, hlt, by go_num, by rw [hst.out]; exact hG5.out⟩, by simp [Go.RowKit.intOf]; omega⟩
    · obtain rfl : m = n := by omega
      have hfin := hid (show tL (L.take m) = tL L by rw [List.take_of_length_le (by rw [hn.out]; exact Nat.le_refl _)])
      replace hG := hid hG
      go_wp2_with fail
      go_ret
      exact ⟨_, rfl, by rw [← hfin.out]; exact hG.out⟩
end Go.Proofs.YtiogceepjffmkaaGreatDoor.Gp
set_option maxRecDepth 100000
namespace Go.Proofs.YtiogceepjffmkaaGreatDoor.Gx
open Go.RowKit Go.Lib Go.Sort Com Mem Tr Im Ag Pl Kd
end Go.Proofs.YtiogceepjffmkaaGreatDoor.Gx
set_option maxRecDepth 100000
namespace Go.Proofs.YtiogceepjffmkaaGreatDoor.Tr
open Go.RowKit Go.Lib Go.Sort Com Mem YtiogceepjffmkaaGreatDoor.Os Pl Kd Gx
theorem two_box (w : World) (k n : Int) (s : List UInt8) (A : Option Addr) (l c : Nat) (t : T) (h : Ex (pln w) w.heap.size (nv k n s A l c) t) :
    Below w.heap.size w ((w.alloc (.cells #[.int .i64 k, .int .i64 n, sv s, .slice A l c] 58)).alloc (.cells #[.int .i64 k, .int .i64 n, sv s, .slice A l c] 58)) ∧
    LA (pln ((w.alloc (.cells #[.int .i64 k, .int .i64 n, sv s, .slice A l c] 58)).alloc (.cells #[.int .i64 k, .int .i64 n, sv s, .slice A l c] 58))) ((w.alloc (.cells #[.int .i64 k, .int .i64 n, sv s, .slice A l c] 58)).alloc (.cells #[.int .i64 k, .int .i64 n, sv s, .slice A l c] 58)).heap.size ⟨some ⟨w.heap.size + 1, 0, none⟩, 1, [t]⟩ := by
  have b1 := box_below w (.cells #[.int .i64 k, .int .i64 n, sv s, .slice A l c] 58)
  have b2 := b1.trans ((box_below _ (.cells #[.int .i64 k, .int .i64 n, sv s, .slice A l c] 58)).mono b1.size)
  have hB := Blk.new (w.alloc (.cells #[.int .i64 k, .int .i64 n, sv s, .slice A l c] 58)) 58 [.int .i64 k, .int .i64 n, sv s, .slice A l c]
  rw [size_alloc'] at hB
  exact ⟨b2, la_one hB (ex_go h b2)⟩
theorem cntL_one (t : T) : kdX.cntL [t] = cntT t := by simp [Kd.cntL]; rfl
end Go.Proofs.YtiogceepjffmkaaGreatDoor.Tr
