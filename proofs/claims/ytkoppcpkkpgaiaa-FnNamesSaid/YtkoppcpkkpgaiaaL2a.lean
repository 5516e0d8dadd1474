/- Chapter 2: the walks of the exact laws without results in memory. -/
import Derived.Test.YtkoppcpkkpgaiaaC2b
import Derived.Test.YtkoppcpkkpgaiaaShelf
namespace Go.Proofs.Ytkoppcpkkpgaiaa.L2a
open Go.RowKit Go.Lib Go.Proofs.Ytkoppcpkkpgaiaa.Com Go.Proofs.Ytkoppcpkkpgaiaa.Mem Go.Proofs.Ytkoppcpkkpgaiaa.Lh Go.Proofs.Ytkoppcpkkpgaiaa.C2

set_option maxHeartbeats 400000 in
theorem walkReserved (w : World) (l : List UInt8) (hl : l.length ≤ 9223372036854775807) : Calls Try.prog 6 #[.string ⟨l.toArray⟩] w fun e w' => e = .returned (.bool true) ∧ Below w.heap.size w w' := by
  by_cases hbig : 1048576 < l.length
  · have t0 : decide (1048576 < (l.length : Int)) = true := decide_eq_true (by omega)
    go_enter Try.func6, Try.ntmps6
    go_wp2_with fail
    go_ret
    exact ⟨rfl, Below.refl _ _⟩
  · have t0 : decide (1048576 < (l.length : Int)) = false := decide_eq_false (by omega)
    have h1 := hid (sreserved_any l w)
    have h2 := hid (fun w => reserved_any l w (by unfold maxLen; omega))
    have hcmp : (Mp.hasS resW l != Mp.hasS resW l) = false := bne_self_eq_false _
    clear hbig
    go_enter Try.func6, Try.ntmps6
    go_wp2_with fail
    refine h1.out.mono ?_
    rintro e w1 ⟨rfl, hb⟩
    go_wp2_with fail
    refine (h2.out _).mono ?_
    rintro e w2 ⟨rfl, hb2⟩
    go_wp2_with fail
    go_ret
    exact ⟨rfl, hb.trans (hb2.mono hb.size)⟩
set_option maxHeartbeats 400000 in
theorem walkValid (w : World) (l : List UInt8) (hl : l.length ≤ 9223372036854775807) : Calls Try.prog 7 #[.string ⟨l.toArray⟩] w fun e w' => e = .returned (.bool true) ∧ Below w.heap.size w w' := by
  by_cases hbig : 1048576 < l.length
  · have t0 : decide (1048576 < (l.length : Int)) = true := decide_eq_true (by omega)
    go_enter Try.func7, Try.ntmps7
    go_wp2_with fail
    go_ret
    exact ⟨rfl, Below.refl _ _⟩
  · have t0 : decide (1048576 < (l.length : Int)) = false := decide_eq_false (by omega)
    have h1 := hid (svalid_any l w hl)
    have h2 := hid (fun w => valid_any l w hl)
    have hcmp : (validB l != validB l) = false := bne_self_eq_false _
    clear hbig
    go_enter Try.func7, Try.ntmps7
    go_wp2_with fail
    refine h1.out.mono ?_
    rintro e w1 ⟨rfl, hb⟩
    go_wp2_with fail
    refine (h2.out _).mono ?_
    rintro e w2 ⟨rfl, hb2⟩
    go_wp2_with fail
    go_ret
    exact ⟨rfl, hb.trans (hb2.mono hb.size)⟩

theorem idx_from (L : List (List UInt8)) (l : List UInt8) : ∀ i : Nat, Lib.idxFromS (L.map fun x => (⟨x.toArray⟩ : ByteArray)) ⟨l.toArray⟩ i = if ixOf L l < 0 then -1 else ixOf L l + i := by
  induction L with
  | nil => intro i; simp [Lib.idxFromS, ixOf]
  | cons x r ih =>
    intro i
    by_cases h : x = l
    · subst h
      have e : ixOf (x :: r) x = 0 := by simp [ixOf]
      rw [e]; simp [Lib.idxFromS]
    · have h' : ¬ ((⟨x.toArray⟩ : ByteArray) = ⟨l.toArray⟩) := fun e => h (by simpa using e)
      have e : ixOf (x :: r) l = if ixOf r l < 0 then -1 else ixOf r l + 1 := by simp [ixOf, h]
      rw [List.map_cons, Lib.idxFromS, if_neg h', ih, e]
      by_cases h2 : ixOf r l < 0
      · simp [h2]
      · rw [if_neg h2, if_neg h2, if_neg (by omega)]; omega
theorem idx_bridge (L : List (List UInt8)) (l : List UInt8) : Lib.idxOfS (L.map fun x => (⟨x.toArray⟩ : ByteArray)) ⟨l.toArray⟩ = ixOf L l := by
  have h := idx_from L l 0
  have hb := ixOf_bd L l
  unfold Lib.idxOfS
  rw [h]
  split <;> omega
set_option maxHeartbeats 400000 in
theorem index_any (A : Option Addr) (c B : Nat) (L : List (List UInt8)) (l : List UInt8) (w : World) (h : Rd w B A (L.map sv)) (hA : ∀ ad, A = some ad → ad = ⟨ad.block, 0, none⟩) (hn : L.length ≤ 9223372036854775807) :
    Calls Try.prog 18 #[.slice A L.length c, .string ⟨l.toArray⟩] w fun e w' => e = .returned (.int .i64 (ixOf L l)) ∧ w = w' := by
  have hc : Calls Try.prog 43 #[.slice A L.length c, .string ⟨l.toArray⟩] w fun e w' => e = .returned (.int .i64 (ixOf L l)) ∧ w' = w := by
    by_cases h0 : L = []
    · subst h0
      have := Try.slices_Index_string_empty A c ⟨l.toArray⟩ w
      have e := idx_bridge [] l
      rw [List.map_nil] at e
      rw [e] at this
      exact this
    · obtain ⟨ad, rfl, _, hcs⟩ := h (by simpa using h0)
      have had := hA ad rfl
      generalize ad.block = g at *
      subst had
      have hc := Try.slices_Index_string g 0 L.length c (L.map fun x => (⟨x.toArray⟩ : ByteArray)) ⟨l.toArray⟩ w (by simp) hn (fun j hj => by
        rw [List.length_map] at hj
        have := hcs j (sv L[j]) (by simp [hj])
        have e : (⟨g, 0, none⟩ : Addr).add j = ⟨g, 0 + j, none⟩ := by unfold Addr.add; split <;> simp_all
        rw [← e, this]
        simp [hj])
      rw [List.take_of_length_le (by simp), idx_bridge] at hc
      exact hc
  have hc := hid hc
  go_enter Try.func18, Try.ntmps18
  go_wp2_with fail
  refine hc.out.mono ?_
  rintro e w' ⟨rfl, rfl⟩
  go_wp2_with fail
  go_ret
  exact ⟨rfl, rfl⟩
theorem index_blk (g c : Nat) (L : List (List UInt8)) (l : List UInt8) (w : World) (h : Blk w g 9 (L.map sv)) (hn : L.length ≤ 9223372036854775807) :
    Calls Try.prog 18 #[.slice (some ⟨g, 0, none⟩) L.length c, .string ⟨l.toArray⟩] w fun e w' => e = .returned (.int .i64 (ixOf L l)) ∧ w = w' :=
  index_any (some ⟨g, 0, none⟩) c (g + 1) L l w h.rd (fun ad e => by cases e; rfl) hn

set_option maxHeartbeats 1000000 in
theorem walkIndex (w : World) (A : Option Addr) (c : Nat) (l : List (List UInt8)) (h : Rd w w.heap.size A (l.map sv)) (hm : ∀ x ∈ l, x.length ≤ 9223372036854775807) (hl : l.length ≤ 9223372036854775807) (s : List UInt8) (_ : s.length ≤ 9223372036854775807) :
    Calls Try.prog 8 #[.slice A l.length c, .string ⟨s.toArray⟩] w fun e w' => e = .returned (.bool true) ∧ Below w.heap.size w w' := by
  by_cases hbig : 1048576 < s.length
  · have t0 : decide (1048576 < (s.length : Int)) = true := decide_eq_true (by omega)
    go_enter Try.func8, Try.ntmps8
    go_wp2_with fail
    go_ret
    exact ⟨rfl, Below.refl _ _⟩
  have t0 : decide (1048576 < (s.length : Int)) = false := decide_eq_false (by omega)
  have hsz := hid (szS_any A c l 1048576 w h hm hl (by decide))
  by_cases hsm : 1048576 < szL l
  · have e1 : szAns (szL l) (1048576 : Nat) = -1 := by unfold szAns; rw [if_neg (by omega)]
    rw [e1] at hsz
    clear e1
    go_enter Try.func8, Try.ntmps8
    go_wp2_with fail
    refine hsz.out.mono ?_
    rintro e w' ⟨rfl, rfl⟩
    go_wp2_with fail
    go_ret
    exact ⟨rfl, Below.refl _ _⟩
  · have e1 : szAns (szL l) (1048576 : Nat) = 1048576 - (szL l : Int) := by unfold szAns; rw [if_pos (by omega)]; rfl
    rw [e1] at hsz
    have t1 : decide ((1048576 : Int) - (szL l : Int) < 0) = false := decide_eq_false (by omega)
    have hszl : szL l = l.length + (l.map List.length).sum := rfl
    have hlen : l.length ≤ 1048576 := by omega
    have hto := hid (fun (w1 : World) (hb : Below w.heap.size w w1) => toS_any A c l w1 ((h.below hb).more hb.size) hlen)
    have hsp := hid (fun (w1 : World) (g : Nat) (hb : Blk w1 g 9 (l.map sv)) => sindex_any (some ⟨g, 0, none⟩) l.length l s w1 (g + 1) hb.rd (by omega))
    have him := hid (fun (w1 : World) (g : Nat) (hb : Blk w1 g 9 (l.map sv)) => index_blk g l.length l s w1 hb (by omega))
    have heq := hid (fun (w1 : World) (g1 g2 : Nat) (h1 : Blk w1 g1 9 (l.map sv)) (h2 : Blk w1 g2 9 (l.map sv)) => eqS_any (some ⟨g1, 0, none⟩) (some ⟨g2, 0, none⟩) l.length l.length l w1 (h1.rd.more h1.lt) (h2.rd.more h2.lt) hl)
    have hcmp : (ixOf l s != ixOf l s) = false := bne_self_eq_false _
    have hb0 := Below.refl w.heap.size w
    clear e1 hszl hsm h hm
    go_enter Try.func8, Try.ntmps8
    go_wp2_with fail
    refine hsz.out.mono ?_
    rintro e w' ⟨rfl, rfl⟩
    go_wp2_with fail
    refine (hto.out _ hb0).mono ?_
    rintro e w1 ⟨rfl, hblk1, hb1⟩
    go_wp2_with fail
    refine (hsp.out _ _ hblk1).mono ?_
    rintro e w2 ⟨rfl, rfl⟩
    go_wp2_with fail
    refine (hto.out _ hb1).mono ?_
    rintro e w3 ⟨rfl, hblk3, hb3⟩
    have hb13 := hb1.trans (hb3.mono hb1.size)
    go_wp2_with fail
    refine (him.out _ _ hblk3).mono ?_
    rintro e w4 ⟨rfl, rfl⟩
    go_wp2_with fail
    refine (hto.out _ hb13).mono ?_
    rintro e w5 ⟨rfl, hblk5, hb5⟩
    have hb15 := hb13.trans (hb5.mono hb13.size)
    have hblk35 := hblk3.below hb5 hblk3.lt
    go_wp2_with fail
    refine (heq.out _ _ _ hblk35 hblk5).mono ?_
    rintro e w6 ⟨rfl, hb6⟩
    go_wp2_with fail
    go_ret
    exact ⟨rfl, hb15.trans (hb6.mono hb15.size)⟩
set_option maxHeartbeats 1000000 in
theorem walkDistinct (w : World) (A : Option Addr) (c : Nat) (l : List (List UInt8)) (h : Rd w w.heap.size A (l.map sv)) (hm : ∀ x ∈ l, x.length ≤ 9223372036854775807) (hl : l.length ≤ 9223372036854775807) :
    Calls Try.prog 9 #[.slice A l.length c] w fun e w' => e = .returned (.bool true) ∧ Below w.heap.size w w' := by
  have hsz := hid (szS_any A c l 1048576 w h hm hl (by decide))
  by_cases hsm : 1048576 < szL l
  · have e1 : szAns (szL l) (1048576 : Nat) = -1 := by unfold szAns; rw [if_neg (by omega)]
    rw [e1] at hsz
    clear e1
    go_enter Try.func9, Try.ntmps9
    go_wp2_with fail
    refine hsz.out.mono ?_
    rintro e w' ⟨rfl, rfl⟩
    go_wp2_with fail
    go_ret
    exact ⟨rfl, Below.refl _ _⟩
  · have e1 : szAns (szL l) (1048576 : Nat) = 1048576 - (szL l : Int) := by unfold szAns; rw [if_pos (by omega)]; rfl
    rw [e1] at hsz
    have t1 : decide ((1048576 : Int) - (szL l : Int) < 0) = false := decide_eq_false (by omega)
    have hszl : szL l = l.length + (l.map List.length).sum := rfl
    have hlen : l.length ≤ 1048576 := by omega
    have hto := hid (fun (w1 : World) (hb : Below w.heap.size w w1) => toS_any A c l w1 ((h.below hb).more hb.size) hlen)
    have hsp := hid (fun (w1 : World) (g : Nat) (hb : Blk w1 g 9 (l.map sv)) => sdistinct_any (some ⟨g, 0, none⟩) l.length l w1 (hb.rd.more hb.lt) (Nat.le_refl _) (by omega))
    have him := hid (fun (w1 : World) (g : Nat) (hb : Blk w1 g 9 (l.map sv)) => distinct_any (some ⟨g, 0, none⟩) l.length l w1 (hb.rd.more hb.lt) hm (by omega))
    have heq := hid (fun (w1 : World) (g1 g2 : Nat) (h1 : Blk w1 g1 9 (l.map sv)) (h2 : Blk w1 g2 9 (l.map sv)) => eqS_any (some ⟨g1, 0, none⟩) (some ⟨g2, 0, none⟩) l.length l.length l w1 (h1.rd.more h1.lt) (h2.rd.more h2.lt) hl)
    have hcmp : (distB l != distB l) = false := bne_self_eq_false _
    have hb0 := Below.refl w.heap.size w
    clear e1 hszl hsm h hm
    go_enter Try.func9, Try.ntmps9
    go_wp2_with fail
    refine hsz.out.mono ?_
    rintro e w' ⟨rfl, rfl⟩
    go_wp2_with fail
    refine (hto.out _ hb0).mono ?_
    rintro e w1 ⟨rfl, hblk1, hb1⟩
    go_wp2_with fail
    refine (hsp.out _ _ hblk1).mono ?_
    rintro e w2 ⟨rfl, hb2⟩
    have hb12 := hb1.trans (hb2.mono hb1.size)
    go_wp2_with fail
    refine (hto.out _ hb12).mono ?_
    rintro e w3 ⟨rfl, hblk3, hb3⟩
    have hb13 := hb12.trans (hb3.mono hb12.size)
    go_wp2_with fail
    refine (him.out _ _ hblk3).mono ?_
    rintro e w4 ⟨rfl, hb4⟩
    have hb14 := hb13.trans (hb4.mono hb13.size)
    have hblk4 := hblk3.below hb4 hblk3.lt
    go_wp2_with fail
    refine (hto.out _ hb14).mono ?_
    rintro e w5 ⟨rfl, hblk5, hb5⟩
    have hb15 := hb14.trans (hb5.mono hb14.size)
    have hblk35 := hblk4.below hb5 hblk4.lt
    go_wp2_with fail
    refine (heq.out _ _ _ hblk35 hblk5).mono ?_
    rintro e w6 ⟨rfl, hb6⟩
    go_wp2_with fail
    go_ret
    exact ⟨rfl, hb15.trans (hb6.mono hb15.size)⟩
end Go.Proofs.Ytkoppcpkkpgaiaa.L2a
