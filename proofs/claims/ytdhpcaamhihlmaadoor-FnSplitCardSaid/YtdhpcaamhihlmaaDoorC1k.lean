/- SplitByte: the program's and the model's. -/
import Derived.Test.YtdhpcaamhihlmaaDoorLhS
import Derived.Test.YtdhpcaamhihlmaaDoorLhM
import Derived.Test.YtdhpcaamhihlmaaDoorSp
import Derived.Test.YtdhpcaamhihlmaaDoorShelf
import Derived.ChangeAgain
namespace Go.Proofs.YtdhpcaamhihlmaaDoor.C1k
open Go.RowKit Go.Lib Go.Proofs.YtdhpcaamhihlmaaDoor.Com Go.Proofs.YtdhpcaamhihlmaaDoor.Mem Go.Proofs.YtdhpcaamhihlmaaDoor.Lh Go.Proofs.YtdhpcaamhihlmaaDoor.Sp

theorem shaped_below {P : Program} {w w' : World} (h : w.ShapedOpen P) (hb : Below w.heap.size w w') : w'.ShapedOpen P := h.keptBut (hb.frame (fun _ => False)) (fun _ h => h.elim)

theorem run_str1' (w : World) (c : UInt8) :
    (convert 22 9 (.slice (some ⟨w.heap.size, 0, none⟩) 1 1)).run Tryd.prog (w.alloc (.cells #[.int .u8 c.toNat] 5)) = .ok (.string ⟨[c].toArray⟩) (w.alloc (.cells #[.int .u8 c.toNat] 5)) := by
  have h := run_str1 w (c.toNat : Int) (by omega) (by have := c.toNat_lt; omega)
  have e : UInt8.ofNat ((c.toNat : Int).toNat) = c := by simp
  rw [e] at h; exact h

set_option maxHeartbeats 400000 in
theorem implSplit (s : List UInt8) (c : UInt8) (w : World) (hs : s.length < 4294967281) (hw : w.ShapedOpen Tryd.prog) :
    Calls Tryd.prog 16 #[.string ⟨s.toArray⟩, .int .u8 c.toNat] w fun e w' => ∃ g, w.heap.size ≤ g ∧ e = .returned (.slice (some ⟨g, 0, none⟩) (sp c s).length (sp c s).length) ∧ Blk w' g 9 ((sp c s).map sv) ∧ Below w.heap.size w w' := by
  have hcv := run_str1' w c
  have hsz : (⟨s.toArray⟩ : ByteArray).size = s.length := by simp [ByteArray.size]
  have hcnt : Lib.countB ⟨s.toArray⟩ ⟨[c].toArray⟩ = s.count c := count_one c s
  have hsp : (Lib.splitB ⟨[c].toArray⟩ 0 (s.count c) ⟨s.toArray⟩).map Value.string = (sp c s).map sv := by
    have h := splitB_data ⟨[c].toArray⟩ 0 (s.count c) ⟨s.toArray⟩
    have h2 := splitK_sp c s.length s (Nat.le_refl _)
    have h3 : (Lib.splitB ⟨[c].toArray⟩ 0 (s.count c) ⟨s.toArray⟩).map (·.data.toList) = sp c s := h.trans h2
    rw [← h3, List.map_map]
    refine List.map_congr_left fun x _ => ?_
    show Value.string x = Value.string ⟨x.data.toList.toArray⟩
    cases x; simp
  have hcall := hid (fun (w1 : World) (hb : Below w.heap.size w w1) => Tryd.strings_Split_shaped ⟨s.toArray⟩ ⟨[c].toArray⟩ w1 (shaped_below hw hb) (by rw [hsz]; exact hs) (by simp [ByteArray.size]))
  rw [hcnt, hsp, ← sp_length c s] at hcall
  clear hcnt hsp hsz hw
  go_enter Tryd.func16, Tryd.ntmps16
  go_wp2_with fail
  refine (hcall.out _ ((Below.refl _ _).alloc (Nat.le_refl _) _)).mono ?_
  rintro e w' ⟨rfl, rfl⟩
  go_wp2_with fail
  go_ret
  exact ⟨w.heap.size + 1, by omega, by simp, by
    have := Blk.new (w.alloc (.cells #[.int .u8 c.toNat] 5)) 9 ((sp c s).map sv)
    simpa using this, ((Below.refl _ _).alloc (Nat.le_refl _) _).alloc (by simp) _⟩

/-- what the model's loop has laid -/
def SpInv (c : UInt8) (s : List UInt8) (i f : Nat) (done : List (List UInt8)) : Prop :=
  (i ≤ s.length ∧ f ≤ i ∧ (∀ j, f ≤ j → j < i → s[j]? ≠ some c) ∧ done ++ sp c (s.drop f) = sp c s) ∨ (i = s.length + 1 ∧ done = sp c s)
theorem SpInv.start (c : UInt8) (s : List UInt8) : SpInv c s 0 0 [] := Or.inl ⟨Nat.zero_le _, Nat.le_refl _, fun j _ h => by omega, by simp⟩
theorem SpInv.skip {c : UInt8} {s : List UInt8} {i f : Nat} {done : List (List UInt8)} (h : SpInv c s i f done) (hi : i < s.length) (hc : s[i] ≠ c) : SpInv c s (i + 1) f done := by
  rcases h with ⟨h1, h2, h3, h4⟩ | ⟨h1, _⟩
  · refine Or.inl ⟨hi, by omega, fun j hj hk => ?_, h4⟩
    by_cases he : j = i
    · subst he; rw [List.getElem?_eq_getElem hi]; intro e; exact hc (Option.some.inj e)
    · exact h3 j hj (by omega)
  · omega
theorem SpInv.seg {c : UInt8} {s : List UInt8} {i f : Nat} {done : List (List UInt8)} (h : SpInv c s i f done) (hi : i ≤ s.length) : f ≤ i ∧ c ∉ (s.drop f).take (i - f) := by
  rcases h with ⟨h1, h2, h3, h4⟩ | ⟨h1, _⟩
  · refine ⟨h2, fun hm => ?_⟩
    obtain ⟨j, hj, e⟩ := List.getElem_of_mem hm
    rw [List.getElem_take, List.getElem_drop] at e
    rw [List.length_take, List.length_drop] at hj
    exact h3 (f + j) (by omega) (by omega) (by rw [List.getElem?_eq_getElem (by omega), e])
  · omega
theorem SpInv.hit {c : UInt8} {s : List UInt8} {i f : Nat} {done : List (List UInt8)} (h : SpInv c s i f done) (hi : i < s.length) (hc : s[i] = c) : SpInv c s (i + 1) (i + 1) (done ++ [(s.drop f).take (i - f)]) := by
  obtain ⟨hf, hn⟩ := h.seg (by omega)
  rcases h with ⟨h1, h2, h3, h4⟩ | ⟨h1, _⟩
  · refine Or.inl ⟨hi, Nat.le_refl _, fun j hj hk => by omega, ?_⟩
    rw [← h4, List.append_assoc]
    congr 1
    have e : s.drop f = (s.drop f).take (i - f) ++ c :: s.drop (i + 1) := by
      conv => lhs; rw [← List.take_append_drop (i - f) (s.drop f)]
      rw [List.drop_drop, show f + (i - f) = i by omega, ← List.getElem_cons_drop (h := hi), hc]
    conv => rhs; rw [e, sp_hit c _ _ hn]
    rfl
  · omega
theorem SpInv.last {c : UInt8} {s : List UInt8} {f : Nat} {done : List (List UInt8)} (h : SpInv c s s.length f done) : SpInv c s (s.length + 1) (s.length + 1) (done ++ [(s.drop f).take (s.length - f)]) := by
  obtain ⟨hf, hn⟩ := h.seg (Nat.le_refl _)
  rcases h with ⟨h1, h2, h3, h4⟩ | ⟨h1, _⟩
  · refine Or.inr ⟨rfl, ?_⟩
    have e : (s.drop f).take (s.length - f) = s.drop f := List.take_of_length_le (by rw [List.length_drop]; exact Nat.le_refl _)
    rw [e] at hn ⊢
    rw [← h4, sp_free c _ hn]
  · omega
theorem SpInv.len {c : UInt8} {s : List UInt8} {i f : Nat} {done : List (List UInt8)} (h : SpInv c s i f done) : done.length ≤ s.length + 1 := by
  have hl := sp_length c s
  have hcl := List.count_le_length (a := c) (l := s)
  rcases h with ⟨_, _, _, h4⟩ | ⟨_, h⟩
  · have := congrArg List.length h4; rw [List.length_append] at this; omega
  · rw [h]; omega

set_option maxHeartbeats 1000000 in
theorem specSplit (s : List UInt8) (c : UInt8) (w : World) (hs : s.length ≤ 1048576) :
    Calls Tryd.prog 18 #[.string ⟨s.toArray⟩, .int .u8 c.toNat] w fun e w' => ∃ g cap, w.heap.size ≤ g ∧ e = .returned (.slice (some ⟨g, 0, none⟩) (sp c s).length cap) ∧ w'.ownsRow w.heap.size 9 1 (.slice (some ⟨g, 0, none⟩) (sp c s).length cap) (sp c s).length ((sp c s).map sv) ∧ Below w.heap.size w w' := by
  obtain ⟨i0, hi, hz0, hz1, hz2⟩ := info_parts strInfo
  go_enter Tryd.func18, Tryd.ntmps18
  go_wp2_with fail
  go_loopw [5, 6, 7] (fun o f i wr => ∃ (k m : Nat) (done : List (List UInt8)), i = .int .i64 k ∧ f = .int .i64 m ∧ SpInv c s k m done ∧ wr.ownsRow w.heap.size 9 1 o done.length (done.map sv) ∧ o ≠ .slice none 0 0 ∧ Below w.heap.size w wr) (fun _ _ i _ => s.length + 1 - (Go.RowKit.intOf i).toNat)
  case atStart =>
    exact ⟨0, 0, [], rfl, rfl, SpInv.start c s, World.ownsRow_lit w #[] 0 (Nat.le_refl _) (by decide) rfl, (by intro e; cases e), (Below.refl _ _).alloc (Nat.le_refl _) _⟩
  case round =>
    obtain ⟨k, m, done, rfl, rfl, hinv, hown, hnn, hb⟩ := hrel
    have hnn := hid hnn
    have b3 : w.heap.size ≤ wr.heap.size + 1 := by have := hb.size; omega
    have hdl := hinv.len
    have b1 : (done.length + 1) * 16 ≤ 140737488355328 := by omega
    have b2 : done.length + 1 ≤ maxLen := by unfold maxLen; omega
    by_cases hle : k ≤ s.length
    · have hsg := hinv.seg hle
      have hm1 : m ≤ k := hsg.1
      clear hsg
      have hx : ({ data := s.toArray } : ByteArray).extract m k = { data := ((s.drop m).take (k - m)).toArray } := by
        apply ByteArray.ext; rw [ByteArray.data_extract]; simp [List.extract_eq_take_drop]
      by_cases hlt : k < s.length
      · have e1 : ({ data := s.toArray } : ByteArray)[k]'hlt = s[k] := rfl
        have t1 : ((k : Int) == (s.length : Int)) = false := beq_eq_false_iff_ne.2 (by omega)
        by_cases hc : s[k] = c
        · have t2 : ((((({ data := s.toArray } : ByteArray)[k]'hlt).toNat : Nat) : Int) == (c.toNat : Int)) = true := by rw [e1, hc]; exact beq_self_eq_true _
          have hnx := hid (hinv.hit hlt hc)
          clear hinv hc e1
          go_wp2_with (first | (at_builtin; refine wpList_append_own _ rfl (.tmp 26) (.tmp 31) 31 rfl w.heap.size 9 i0 (sv []) 1 16 Tryd.underlying31 hi hz0 hz1 hz2 rfl (by decide) u5 _ _ rfl (hown.alloc _) ⟨wr.heap.size, 0, none⟩ 1 1 [sv ((s.drop m).take (k - m))] rfl rfl (one_cell _ _ _) (one_one _) b2 b1 (by rw [size_alloc']; exact b3) ?_; intro v1 w1 hown1 hg1 hn1))
          refine ⟨⟨k + 1, k + 1, done ++ [(s.drop m).take (k - m)], by go_num, by go_num, hnx.out, by simpa using hown1, fun e => (by have := (hn1.1 e).2; omega), (hb.alloc hb.size _).grown hg1 (by rw [size_alloc']; exact b3) (fun g hg => (hown.lt g hg).1)⟩, by simp [Go.RowKit.intOf]; omega⟩
        · have t2 : ((((({ data := s.toArray } : ByteArray)[k]'hlt).toNat : Nat) : Int) == (c.toNat : Int)) = false := by
            rw [beq_eq_false_iff_ne, e1]; intro e; exact hc (UInt8.toNat_inj.1 (by omega))
          have hnx := hid (hinv.skip hlt hc)
          clear hinv hc e1 hx
          go_wp2_with fail
          exact ⟨⟨k + 1, m, done, by go_num, rfl, hnx.out, hown, hnn.out, hb⟩, by simp [Go.RowKit.intOf]; omega⟩
      · obtain rfl : k = s.length := by omega
        have hnx := hid hinv.last
        clear hinv
        go_wp2_with (first | (at_builtin; refine wpList_append_own _ rfl (.tmp 26) (.tmp 31) 31 rfl w.heap.size 9 i0 (sv []) 1 16 Tryd.underlying31 hi hz0 hz1 hz2 rfl (by decide) u5 _ _ rfl (hown.alloc _) ⟨wr.heap.size, 0, none⟩ 1 1 [sv ((s.drop m).take (s.length - m))] rfl rfl (one_cell _ _ _) (one_one _) b2 b1 (by rw [size_alloc']; exact b3) ?_; intro v1 w1 hown1 hg1 hn1))
        refine ⟨⟨s.length + 1, s.length + 1, done ++ [(s.drop m).take (s.length - m)], by go_num, by go_num, hnx.out, by simpa using hown1, fun e => (by have := (hn1.1 e).2; omega), (hb.alloc hb.size _).grown hg1 (by rw [size_alloc']; exact b3) (fun g hg => (hown.lt g hg).1)⟩, by simp [Go.RowKit.intOf]⟩
    · have hk : k = s.length + 1 ∧ done = sp c s := by
        rcases hinv with h | h
        · exact absurd h.1 hle
        · exact h
      obtain ⟨rfl, rfl⟩ := hk
      have t1 : decide (((s.length + 1 : Nat) : Int) ≤ (s.length : Int)) = false := decide_eq_false (by omega)
      obtain ⟨_, ⟨rfl, _⟩ | ⟨g, cap, cur, rfl, hg, hblk, hn, hcap, hcur, htake⟩⟩ := id hown
      · exact absurd rfl hnn.out
      · go_wp2_with fail
        go_ret
        exact ⟨g, cap, hg, rfl, hown, hb⟩

set_option maxHeartbeats 1000000 in
theorem walk (w : World) (hw : w.ShapedOpen Tryd.prog) (s : List UInt8) (hs : s.length ≤ 9223372036854775807) (n : Int) (hn : (Lit.int .u8 n).wf = true) :
    Calls Tryd.prog 6 #[.string ⟨s.toArray⟩, .int .u8 n] w fun e w' => e = .returned (.bool true) ∧ Below w.heap.size w w' := by
  have hx : 0 ≤ n ∧ n ≤ 255 := by simpa [Lit.wf, IntKind.min, IntKind.max, IntKind.signed, IntKind.bits] using hn
  obtain ⟨c, rfl⟩ : ∃ c : UInt8, n = (c.toNat : Int) := ⟨UInt8.ofNat n.toNat, by simp [UInt8.toNat_ofNat']; omega⟩
  clear hx hn
  by_cases hbig : 1048576 < s.length
  · have t0 : decide (1048576 < (s.length : Int)) = true := decide_eq_true (by omega)
    go_enter Tryd.func6, Tryd.ntmps6
    go_wp2_with fail
    go_ret
    exact ⟨rfl, Below.refl _ _⟩
  have t0 : decide (1048576 < (s.length : Int)) = false := decide_eq_false (by omega)
  have hl : (sp c s).length ≤ 1048577 := by rw [sp_length]; have := List.count_le_length (a := c) (l := s); omega
  have hsp := hid (specSplit s c w (by omega))
  have him := hid (fun (w1 : World) (hb : Below w.heap.size w w1) => implSplit s c w1 (by omega) (shaped_below hw hb))
  have heq := hid (fun (A1 A2 : Option Addr) (c1 c2 : Nat) (w1 : World) (h1 : Rd w1 w1.heap.size A1 ((sp c s).map sv)) (h2 : Rd w1 w1.heap.size A2 ((sp c s).map sv)) => eqS_any A1 A2 c1 c2 (sp c s) w1 h1 h2 (by omega))
  have hmk := hid (fun (w1 : World) (g c1 : Nat) (h1 : Blk w1 g 9 ((sp c s).map sv)) => markS_one g c1 (sp c s) w1 h1 (by omega))
  have hhd := hid (fun (w1 : World) (g c1 : Nat) (h1 : Blk w1 g 9 (marks 1 (sp c s).length)) => heldS_one g c1 (sp c s).length w1 h1 (by omega))
  clear hbig hs hw
  go_enter Tryd.func6, Tryd.ntmps6
  go_wp2_with fail
  refine hsp.out.mono ?_
  rintro e w1 ⟨g1, cap1, hg1, rfl, hown1, hb1⟩
  have hr1 : Rd w1 w1.heap.size (some ⟨g1, 0, none⟩) ((sp c s).map sv) := own_rd hown1
  clear hown1
  go_wp2_with fail
  refine (him.out _ hb1).mono ?_
  rintro e w2 ⟨g2, hg2, rfl, hblk2, hb2⟩
  have hb12 := hb1.trans (hb2.mono hb1.size)
  have hr2 := hr1.below hb2
  have hg2w : w.heap.size ≤ g2 := Nat.le_trans hb1.size hg2
  go_wp2_with fail
  refine (heq.out _ _ _ _ w2 (hblk2.rd.more hblk2.lt) (hr2.more hb2.size)).mono ?_
  rintro e w3 ⟨rfl, hb3⟩
  have hb13 := hb12.trans (hb3.mono hb12.size)
  have hblk3 := hblk2.below hb3 hblk2.lt
  have hr3 := hr2.below (hb3.mono hb2.size)
  go_wp2_with fail
  refine (hmk.out w3 _ _ hblk3).mono ?_
  rintro e w4 ⟨rfl, hblk4, hgb4⟩
  have hb14 := bgb hb13 hgb4 hb13.size hg2w
  have hr4 := hr3.gb hgb4 (Nat.le_trans hb2.size hb3.size) hg2
  have z4 := hgb4.size
  go_wp2_with fail
  refine (hhd.out w4 _ _ hblk4).mono ?_
  rintro e w5 ⟨rfl, hb5⟩
  have hb15 := hb14.trans (hb5.mono hb14.size)
  have hblk5 := hblk4.below hb5 hblk4.lt
  have hr5 := hr4.below (hb5.mono (Nat.le_trans hb2.size (Nat.le_trans hb3.size z4)))
  have t5 : decide (1 + ((sp c s).length : Int) < 0) = false := decide_eq_false (by omega)
  have t6 : ((1 + ((sp c s).length : Int)) != 1 + ((sp c s).length : Int)) = false := by simp
  go_wp2_with fail
  refine (him.out _ hb15).mono ?_
  rintro e w6 ⟨g6, hg6, rfl, hblk6, hb6⟩
  have hb16 := hb15.trans (hb6.mono hb15.size)
  have hblk56 := hblk5.below hb6 hblk5.lt
  have z35 : w1.heap.size ≤ w5.heap.size := Nat.le_trans hb2.size (Nat.le_trans hb3.size (Nat.le_trans z4 hb5.size))
  have hr6 := hr5.below (hb6.mono z35)
  go_wp2_with fail
  refine (heq.out _ _ _ _ w6 (hblk6.rd.more hblk6.lt) (hr6.more (Nat.le_trans z35 hb6.size))).mono ?_
  rintro e w7 ⟨rfl, hb7⟩
  have hb17 := hb16.trans (hb7.mono hb16.size)
  have hblk7 := hblk56.below hb7 hblk56.lt
  go_wp2_with fail
  refine (hhd.out w7 _ _ hblk7).mono ?_
  rintro e w8 ⟨rfl, hb8⟩
  have hb18 := hb17.trans (hb8.mono hb17.size)
  go_wp2_with fail
  go_ret
  exact ⟨rfl, hb18⟩
end Go.Proofs.YtdhpcaamhihlmaaDoor.C1k
