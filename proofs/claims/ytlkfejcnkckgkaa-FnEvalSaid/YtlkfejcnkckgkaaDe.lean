/- Chapter 4's draws: DrawEvalExpr. -/
import Derived.Test.YtlkfejcnkckgkaaDr4f
import Derived.Test.YtlkfejcnkckgkaaDr3
import Derived.Test.YtlkfejcnkckgkaaC4d
set_option maxRecDepth 100000
namespace Go.Proofs.Ytlkfejcnkckgkaa.Dr
open Go.RowKit Go.Lib Go.Proofs.Ytlkfejcnkckgkaa.Com Go.Proofs.Ytlkfejcnkckgkaa.Mem Go.Proofs.Ytlkfejcnkckgkaa.Cur Go.Proofs.Ytlkfejcnkckgkaa.Os Go.Proofs.Ytlkfejcnkckgkaa.Tr
theorem rd_cut {w : World} {B : Nat} {A : Option Addr} {xs : List Value} (h : Rd w B A xs) (n : Nat) : Rd w B A (xs.take n) := by
  intro hne
  obtain ⟨ad, hA, hb, hc⟩ := h (by intro e; subst e; simp at hne)
  exact ⟨ad, hA, hb, fun j u hj => hc j u (by rw [List.getElem?_take] at hj; split at hj; exact hj; cases hj)⟩
theorem results_row_tt {P : Program} {fn : Func} {p q r : Tmp} {ty : TypeId} (h : fn.results = #[.cell p ty, .tmp q, .tmp r]) (tmps : Array Value) (w : World) (g : Nat) (t : TypeId) (cs : Array Value) (fr : Nat × Nat) (d : TypeDesc)
    (hp : tmps.getD p undef = .pointer (some ⟨g, 0, none⟩)) (hg : w.heap[g]? = some (.cells cs t fr))
    (hu : P.underlying ty = some d) (hd : (match d with | .struct _ | .array _ _ => true | _ => false) = true) (hi : (P.info? ty).map (·.size) = some cs.size) :
    (results fn tmps).run P w = .ok (.tuple #[.agg cs, tmps.getD q undef, tmps.getD r undef]) w := by
  have hp' : tmps[p]?.getD undef = .pointer (some ⟨g, 0, none⟩) := by simpa using hp
  simp [results, h, hp', asAddr, run_loadVar_row w g t ty cs fr d hg hu hd hi]
set_option maxHeartbeats 4000000 in
theorem drawEval (A : Option Addr) (c : Nat) (xs : List UInt8) (w : World) (hr : Rd w w.heap.size A (xs.map bv)) (hn : xs.length ≤ 1048576) :
    Calls Try.prog 23 #[.slice A xs.length c] w fun e w' => ∃ v t, ∃ (L : List (List UInt8)) (S : List Int) (AV AS : Option Addr) (cV cS : Nat), e = .returned (.tuple #[v, .slice AV L.length cV, .slice AS S.length cS]) ∧
      OwnX w.heap.size w'.heap.size w' v t ∧ cntT t ≤ 40 ∧ Rd w' w'.heap.size AV (L.map sv) ∧ Base AV ∧ Rd w' w'.heap.size AS (S.map iv) ∧ L.length ≤ 2 ∧ S.length ≤ 2 ∧ (AS = none → S.length = 0 ∧ cS = 0) ∧ Below w.heap.size w w' := by
  have hb0 := box_below w (.cells #[.int .i64 0, .int .i64 0, .string ⟨#[]⟩, .slice none 0 0] 26)
  have s0 := size_alloc' w (.cells #[.int .i64 0, .int .i64 0, .string ⟨#[]⟩, .slice none 0 0] 26)
  have h1 := hid (new_any A c xs _ ((hr.below hb0).more hb0.size) hn)
  have R0 := hid (Blk.new w 26 [.int .i64 0, .int .i64 0, .string ⟨#[]⟩, .slice none 0 0])
  replace hb0 := hid hb0
  clear hr hn
  go_enter Try.func23, Try.ntmps23
  go_wp2_with fail
  generalize (w.alloc (.cells #[.int .i64 0, .int .i64 0, .string ⟨#[]⟩, .slice none 0 0] 26)) = W0 at *
  refine h1.out.mono ?_
  rintro e w1 ⟨g, hg, rfl, hc, hb⟩
  have R1 := hid (R0.out.below hb (by omega))
  have B1 := hid (hb0.out.trans (hb.mono (by omega)))
  have s1 := hb.size
  clear hb
  go_wp2_with fail
  refine (bent_any g A c xs w1 hc).mono ?_
  rintro e w2 ⟨v, t, rfl, hO, hcn, hd⟩
  obtain ⟨k, n, s, KA, l, kc, rfl⟩ := OwnE.form hO
  have hgl := cur_lt hc
  have R2 := hid (R1.out.gb hd.2 (by omega))
  have z2 := hd.2.size
  have D2 := hid hd
  have hb := box_below w2 (.cells #[.int .i64 k, .int .i64 n, sv s, .slice KA l kc] 26)
  have E3 := hid (box_blk w2 k n s KA l kc 26)
  have D3 := hid (drew_be hd hb)
  have R3 := hid (R2.out.below hb R2.out.lt)
  have O3 := hid (hO.same (same_below hb (Nat.le_refl _)))
  have s3 := size_alloc' w2 (.cells #[.int .i64 k, .int .i64 n, sv s, .slice KA l kc] 26)
  clear hO hd hb hc D2 R2 R1
  go_wp2_with fail
  generalize (w2.alloc (.cells #[.int .i64 k, .int .i64 n, sv s, .slice KA l kc] 26)) = w3 at *
  have hb := box_below w3 (.cells #[sv [120], sv [121]] 9)
  have n4 := Blk.new w3 9 [sv [120], sv [121]]
  rw [s3] at n4
  replace n4 := hid n4
  have D4 := hid (drew_be D3.out hb)
  have R4 := hid (R3.out.below hb R3.out.lt)
  have E4 := hid (E3.out.below hb E3.out.lt)
  have O4 := hid (O3.out.same (same_below hb (by omega)))
  have s4 := size_alloc' w3 (.cells #[sv [120], sv [121]] 9)
  clear hb D3 R3 E3 O3
  generalize (w3.alloc (.cells #[sv [120], sv [121]] 9)) = w4 at *
  refine (below_any g A c xs 3 w4 D4.out.1 (by omega) (by omega)).mono ?_
  rintro e w5 ⟨⟨x, rfl, hx, hx2⟩, hd⟩
  have D5 := hid (drew_tr D4.out hd)
  have n5 := hid (n4.out.gb hd.2 (by omega))
  have R5 := hid (R4.out.gb hd.2 (by omega))
  have E5 := hid (E4.out.gb hd.2 (by omega))
  have O5 := hid (O4.out.chg (chg_of_gbs hd.2) (Or.inr hgl))
  have z5 := hd.2.size
  have hx' : x ≤ 2 := by omega
  clear hd D4 n4 R4 E4 O4 hx hx2
  go_wp2_with fail
  refine (any3 g A c xs w5 D5.out.1).mono ?_
  rintro e w6 ⟨⟨y, hy1, hy2, rfl⟩, hd⟩
  have D6 := hid (drew_tr D5.out hd)
  have n6 := hid (n5.out.gb hd.2 (by omega))
  have R6 := hid (R5.out.gb hd.2 (by omega))
  have E6 := hid (E5.out.gb hd.2 (by omega))
  have O6 := hid (O5.out.chg (chg_of_gbs hd.2) (Or.inr hgl))
  have z6 := hd.2.size
  clear hd D5 n5 R5 E5 O5
  go_wp2_with fail
  refine (below_any g A c xs 4 w6 D6.out.1 (by omega) (by omega)).mono ?_
  rintro e w7 ⟨⟨q, rfl, hq, hq2⟩, hd⟩
  have D7 := drew_tr D6.out hd
  have n7 := n6.out.gb hd.2 (by omega)
  have R7 := R6.out.gb hd.2 (by omega)
  have E7 := E6.out.gb hd.2 (by omega)
  have O7 := O6.out.chg (chg_of_gbs hd.2) (Or.inr hgl)
  have z7 := hd.2.size
  have hb := box_below w7 (.cells #[.int .i64 y, .int .i64 (q : Nat)] 3)
  have m8 := hid (Blk.new w7 3 [.int .i64 y, .int .i64 (q : Nat)])
  have D8 := hid (drew_be D7 hb)
  have n8 := hid (n7.below hb n7.lt)
  have R8 := hid (R7.below hb R7.lt)
  have E8 := E7.below hb E7.lt
  have O8 := hid (O7.same (same_below hb (by omega)))
  have s8 := size_alloc' w7 (.cells #[.int .i64 y, .int .i64 (q : Nat)] 3)
  obtain ⟨u0, u1, u2, u3⟩ := four E8
  replace E8 := hid E8
  clear hd hb D6 n6 R6 E6 O6 D7 n7 R7 E7 O7 hq hq2
  go_wp2_with fail
  generalize (w7.alloc (.cells #[.int .i64 y, .int .i64 (q : Nat)] 3)) = w8 at *
  have hgw : w.heap.size ≤ g := by omega
  have hdw : Below w8.heap.size w8 w8.drew := (Below.refl _ _).drew
  have D8' := hid (drew_be D8.out hdw)
  have step : ∀ w9, Drew w8.drew g A c xs w9 → (Hid (Drew w1 g A c xs w9) ∧ Hid (Blk w9 w.heap.size 26 [.int .i64 0, .int .i64 0, .string ⟨#[]⟩, .slice none 0 0]) ∧ Hid (Blk w9 w2.heap.size 26 [.int .i64 k, .int .i64 n, sv s, .slice KA l kc]) ∧
      Hid (Blk w9 (w2.heap.size + 1) 9 [sv [120], sv [121]]) ∧ Hid (Blk w9 w7.heap.size 3 [.int .i64 y, .int .i64 (q : Nat)]) ∧ Hid (OwnE 26 w9 w1.heap.size w2.heap.size (nv k n s KA l kc) t) ∧ w8.heap.size ≤ w9.heap.size) := by
    intro w9 hd
    refine ⟨hid (drew_tr D8'.out hd), hid ((R8.out.below hdw R8.out.lt).gb hd.2 (by omega)), hid ((E8.out.below hdw E8.out.lt).gb hd.2 (by omega)), hid ((n8.out.below hdw n8.out.lt).gb hd.2 (by omega)), hid ((m8.out.below hdw m8.out.lt).gb hd.2 (by omega)), hid ((O8.out.same (same_below hdw (by omega))).chg (chg_of_gbs hd.2) (Or.inr hgl)), ?_⟩
    exact hd.2.size
  clear hdw D8 R8 E8 n8 m8 O8
  go_region_with (first
      | (go_at_call 52; refine (below_any g A c xs 3 _ D8'.out.1 (by omega) (by omega)).mono ?_; rintro e w9 ⟨⟨r, rfl, hr1, hr2⟩, hd⟩; have hr' : r ≤ 2 := (by omega); obtain ⟨D9, R9, E9, n9, m9, O9, z9⟩ := step w9 hd; obtain ⟨p0, p1, p2, p3⟩ := four E9.out; have f0 := R9.out.frozen 0; have f1 := R9.out.frozen 1; have f2 := R9.out.frozen 2; have f3 := R9.out.frozen 3; obtain ⟨x0, x1, x2, x3⟩ := four R9.out; clear E9 hd hr1 hr2 step))
  all_goals
    have hcg := setR_chg w9 w.heap.size k n s (.slice KA l kc)
    have hzz := hcg.size
    have g1 := hid (setR_blk R9.out k n s (.slice KA l kc))
    have g2 := hid ((O9.out.chg hcg (Or.inr (by omega))).mono (lo' := w.heap.size) (by omega) (show w2.heap.size ≤ (setR w9 w.heap.size k n s (.slice KA l kc)).heap.size by omega))
    have B9 := drew_below hgw B1.out D9.out
    have g3 := hid (((B9.setCell (p := ⟨w.heap.size, 0, none⟩) (Nat.le_refl _) (.int .i64 k)).setCell (p := ⟨w.heap.size, 1, none⟩) (Nat.le_refl _) (.int .i64 n)).setCell (p := ⟨w.heap.size, 2, none⟩) (Nat.le_refl _) (sv s) |>.setCell (p := ⟨w.heap.size, 3, none⟩) (Nat.le_refl _) (.slice KA l kc))
    have nn := blk_chg n9.out hcg (by omega)
    have mm := blk_chg m9.out hcg (by omega)
    have g4 := rd_cut nn.rd x
    have g5 := rd_cut mm.rd r
    replace g4 := hid (g4.more (B' := (setR w9 w.heap.size k n s (.slice KA l kc)).heap.size) (by omega))
    replace g5 := hid (g5.more (B' := (setR w9 w.heap.size k n s (.slice KA l kc)).heap.size) (by omega))
    have hl1 : ([[120], [121]].take x : List (List UInt8)).length = x := by simp; omega
    have hl2 : ([y, (q : Int)].take r).length = r := by simp; omega
    replace hcg := hid hcg
    clear B9 nn mm
    go_wp2_with fail
    exact bodyPost_ret (results_row_tt Try.results23 _ _ w.heap.size 26 _ (0, 0) _ rfl g1.out Try.underlying26 rfl (by kernel_rfl)) rfl
      ⟨_, t, [[120], [121]].take x, [y, (q : Int)].take r, some ⟨w2.heap.size + 1, 0, none⟩, some ⟨w7.heap.size, 0, none⟩, 2, 2, by rw [hl1, hl2]; rfl, g2.out, hcn, by rw [List.map_take]; exact g4.out, fun ad e => by cases e; rfl, by rw [List.map_take]; exact g5.out, by omega, by omega, (fun e => by cases e), g3.out⟩
end Go.Proofs.Ytlkfejcnkckgkaa.Dr
