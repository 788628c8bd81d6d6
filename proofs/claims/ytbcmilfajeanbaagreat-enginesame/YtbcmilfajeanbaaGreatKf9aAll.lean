/-
  Layer 8: items with one more, without the first one; which of two is ahead: contracts.
  Layer 8: items without the first one: contract.
  Layer 8: which of what two reads saw has the item that goes: contract.
  Layer 8: what a shard has is seen: contract.
  Layer 8: a shard is written: contract.
  What a Multi's steps do.
  Layer 8: an Insert's write: contract.
  Layer 8: a Delete's steps: contracts.
  Layer 8: a Delete's write: contracts.
  Layer 8: a Multi's step, as a machine's: contract.
  Layer 9: a slot's cell; is there room; a new queue: contracts.
-/
import Derived.Test.YtbcmilfajeanbaaGreatAll4All
import Derived.Test.YtbcmilfajeanbaaGreatFlat4All
import Derived.Test.YtbcmilfajeanbaaGreatRegionAll
import Derived.Test.YtbcmilfajeanbaaGreatTail
import Derived.Deep.RegionWith
import Derived.Test.YtbcmilfajeanbaaGreatNetDAll
import Derived.Test.YtbcmilfajeanbaaGreatKNew9All
namespace Go.Proofs.YtbcmilfajeanbaaGreat
open Go.RowKit Go.Sort

theorem row_kit {w : World} {g cap : Nat} {K : List KI} (h : Row w g cap K.toArray) : Flat 2 w g cap K.length (flatI (kit K)) := by
  have hs : K.toArray.size = K.length := by simp
  refine ⟨h.lt, by rw [flatI_length, kit_length], by have := h.le; omega, h.cmax, ?_, flatI_one _, h.there⟩
  intro t u hu
  have ht : t < (flatI (kit K)).length := (List.getElem?_eq_some_iff.1 hu).1
  rw [flatI_length, kit_length] at ht
  have hk : t / 2 < K.length := by omega
  have hx : K.toArray[t / 2]! = K[t / 2] := by rw [getElem!_pos K.toArray (t / 2) (by simpa using hk)]; rfl
  obtain ⟨e1, e2⟩ := flatI_get (kit K) (t / 2) (by rw [kit_length]; exact hk)
  by_cases e : t % 2 = 0
  · have et : t / 2 * 2 = t := by omega
    rw [et, hu] at e1
    have := h.flt (t / 2) (by simpa using hk)
    rw [et, hx] at this
    rw [this, e1]; simp [kit]
  · have et : t / 2 * 2 + 1 = t := by omega
    rw [et, hu] at e2
    have := h.val (t / 2) (by simpa using hk)
    rw [et, hx] at this
    rw [this, e2]; simp [kit]

theorem srt_of_perm {L M : List KI} (h : L.Perm M) : srt L = srt M := order_eq _ _ ((srt_perm L).trans (h.trans (srt_perm M).symm)) (srt_order L) (srt_order M)
theorem srt_self {L : List KI} (h : InOrder L) : srt L = L := order_eq _ _ (srt_perm L) (srt_order L) h

/-- Items with one more. -/
theorem mwith_any (a : Option Addr) (cap n : Nat) (K : List KI) (p : Nat) (v : Int) (w : World) (hn : n = K.length) (hb : n ≤ 1000) (h : SlAt 2 w a cap n (flatI (kit K))) (hp : p < 18446744073709551616) :
    Calls Tryz.prog 168 #[.slice a n cap, .agg #[.float .f64 p, .int .i64 v]] w fun e w' => ∃ g c, e = .returned (.slice (some ⟨g, 0, none⟩) (n + 1) c) ∧ w.heap.size ≤ g ∧ Flat 2 w' g c (n + 1) (flatI (kit (srt (mkKI p v :: K)))) ∧ Below w.heap.size w w' := by
  have hsf := run_store_flt (P := Tryz.prog)
  have hB0 : BoxAt (w.alloc (.cells #[.float .f64 p, .int .i64 v] 40)) w.heap.size [.float .f64 p, .int .i64 v] := BoxAt.new w [.float .f64 p, .int .i64 v] 40
  have hb0 : Below w.heap.size w (w.alloc (.cells #[.float .f64 p, .int .i64 v] 40)) := (Below.refl _ _).alloc (Nat.le_refl _) _
  have hN := hidq (new_any a n cap _ _ _ (items_of hn (h.below hb0)) (by omega))
  have hz0 : (w.alloc (.cells #[.float .f64 p, .int .i64 v] 40)).heap.size = w.heap.size + 1 := by simp
  have HN := hidq hn
  clear h hn
  go_enter Tryz.func168, Tryz.ntmps168
  go_wp2_with fail
  refine hN.out.mono ?_
  rintro e w1 ⟨b, g, d, rfl, hbb, hg, hH, hd, hb1⟩
  rw [can_kit K n HN.out] at hd
  have hB1 := hB0.below hb1
  obtain ⟨q0, _⟩ := hB1.get 0 _ rfl
  obtain ⟨q1, _⟩ := hB1.get 1 _ rfl
  have hP := hidq (put_any b g p v d w1 hH hp (by have := hd.length_eq; have := HN.out; simp at *; omega))
  have hBb := hidq (hb0.trans (hb1.mono hb0.size))
  have HD := hidq hd
  clear hH hb1 hd hB1 hB0 hb0
  go_wp2_with fail
  refine hP.out.mono ?_
  rintro e w2 ⟨rfl, g2, d2, hH2, hd2, hb2, hg2⟩
  have hA := hidq (all_any b g2 d2 w2 hH2)
  have hsz : d2.size = n + 1 := by
    have h1 := hd2.length_eq
    have h2 := HD.out.length_eq
    have h3 := HN.out
    simp at h1 h2; omega
  rw [hsz] at hA
  have hsrt : srt d2.toList = srt (mkKI p v :: K) := srt_of_perm (hd2.trans (HD.out.cons _))
  rw [hsrt] at hA
  have hs1 := hBb.out.size
  have HB2 := hidq (hBb.out.trans (hb2.below (B := w.heap.size) hs1 (fun k e => by omega)))
  clear hP hH2 hd2 hb2 hsrt
  go_wp2_with fail
  refine hA.out.mono ?_
  rintro e w3 ⟨g3, rfl, hg3, hR3, hb3⟩
  have hl : (srt (mkKI p v :: K)).length = n + 1 := by rw [(srt_perm _).length_eq]; have := HN.out; simp; omega
  have hF := row_kit hR3
  rw [hl] at hF
  have FIN := hidq (And.intro hF (HB2.out.trans (hb3.mono HB2.out.size)))
  have hgl : w.heap.size ≤ g3 := by have := HB2.out.size; omega
  clear hR3 hb3 hF hA hl
  go_wp2
  go_ret
  exact ⟨g3, n + 1, rfl, hgl, FIN.out.1, FIN.out.2⟩
end Go.Proofs.YtbcmilfajeanbaaGreat

namespace Go.Proofs.YtbcmilfajeanbaaGreat
open Go.RowKit Go.Sort

theorem order_head {x : KI} {L : List KI} (h : InOrder (x :: L)) : ∀ y ∈ x :: L, y.lt x = false := by
  intro y hy
  rcases List.mem_cons.1 hy with rfl | hy
  · cases h2 : KI.lt y y
    · rfl
    · have := Hp.asym KI.swo h2; rw [h2] at this; cases this
  · exact (List.pairwise_cons.1 h).1 y hy
theorem order_tail {x : KI} {L : List KI} (h : InOrder (x :: L)) : InOrder L := (List.pairwise_cons.1 h).2
/-- The first one of a pile is the first one in order. -/
theorem first_head {d : Array KI} {x : KI} {L : List KI} (hp : d.toList.Perm (x :: L)) (hs : 0 < d.size) (hf : ∀ y ∈ d.toList, y.lt d[0]! = false) (ho : InOrder (x :: L)) : d[0]! = x :=
  KI.total _ _ (order_head ho _ (hp.mem_iff.1 (first_mem hs))) (hf _ (hp.mem_iff.2 List.mem_cons_self))

set_option maxHeartbeats 2000000 in
theorem mrest_any (a : Option Addr) (cap n : Nat) (x : KI) (K : List KI) (w : World) (hn : n = K.length) (hb : n ≤ 1000) (ho : InOrder (x :: K)) (h : SlAt 2 w a cap (n + 1) (flatI (kit (x :: K)))) :
    Calls Tryz.prog 170 #[.slice a (n + 1) cap] w fun e w' => ∃ g c, e = .returned (.tuple #[.agg #[.float .f64 x.b, .int .i64 x.v], .slice (some ⟨g, 0, none⟩) n c]) ∧ w.heap.size ≤ g ∧ Flat 2 w' g c n (flatI (kit K)) ∧ Below w.heap.size w w' := by
  have hsf := run_store_flt (P := Tryz.prog)
  have hB0 : BoxAt (w.alloc (.cells #[.float .f64 0, .int .i64 0] 40)) w.heap.size [.float .f64 0, .int .i64 0] := BoxAt.new w [.float .f64 0, .int .i64 0] 40
  have hb0 : Below w.heap.size w (w.alloc (.cells #[.float .f64 0, .int .i64 0] 40)) := (Below.refl _ _).alloc (Nat.le_refl _) _
  have hN := hidq (new_any a (n + 1) cap _ _ _ (items_of (K := x :: K) (by simp; omega) (h.below hb0)) (by omega))
  have hz0 : (w.alloc (.cells #[.float .f64 0, .int .i64 0] 40)).heap.size = w.heap.size + 1 := by simp
  have HN := hidq hn
  have HO := hidq ho
  have HB0 := hidq hB0
  have Hb0 := hidq hb0
  clear h hn ho hB0 hb0
  go_enter Tryz.func170, Tryz.ntmps170
  go_wp2_with fail
  refine hN.out.mono ?_
  rintro e w1 ⟨b, g, d, rfl, hbb, hg, hH, hd, hb1⟩
  rw [can_kit (x :: K) (n + 1) (by have := HN.out; simp; omega)] at hd
  have hsz : 0 < d.size := by have := hd.length_eq; simp at this; omega
  have hT := take_some b g d w1 hH hsz
  rw [first_head hd hsz hH.first HO.out] at hT
  have hT := hidq hT
  have HB1 := hidq (And.intro (HB0.out.below hb1) (Hb0.out.trans (hb1.mono Hb0.out.size)))
  have HD := hidq hd
  clear hH hd hb1 hN
  go_wp2_with fail
  refine hT.out.mono ?_
  rintro e w2 ⟨rfl, d2, hH2, hd2, hb2⟩
  have hp2 : d2.toList.Perm K := (List.Perm.cons_inv (HD.out.symm.trans hd2)).symm
  have hsz2 : d2.size = n := by have := hp2.length_eq; have := HN.out; simp at *; omega
  have hsrt : srt d2.toList = K := (srt_of_perm hp2).trans (srt_self (order_tail HO.out))
  have hb2' : But (fun k => k = b ∨ k = g) w1 w2 := hb2
  have hBA2 := HB1.out.1.but hb2 (by omega)
  have hlow := HB1.out.2
  have hs1 := hlow.size
  have HL2 := hidq (hlow.trans (hb2.below (B := w.heap.size) hs1 (fun k e => by omega)))
  have hz2 := hBA2.lt
  obtain ⟨xb, hxb⟩ : ∃ xb, w2.heap.size = xb := ⟨_, rfl⟩
  obtain ⟨W2, hW2⟩ : ∃ W2, w2.alloc (.cells #[.float .f64 x.b, .int .i64 x.v] 40) = W2 := ⟨_, rfl⟩
  have hX : BoxAt W2 xb [.float .f64 x.b, .int .i64 x.v] := by
    have := BoxAt.new w2 [.float .f64 x.b, .int .i64 x.v] 40
    rw [hxb] at this
    rw [← hW2]; exact this
  have h2W : But (fun _ => False) w2 W2 := by rw [← hW2]; exact (But.refl _ _).alloc _
  have hA := hidq (fun W (hW : But (fun _ => False) W2 W) => (show Calls Tryz.prog 173 #[.pointer (some ⟨b, 0, none⟩)] W fun e w' => ∃ g', e = .returned (.slice (some ⟨g', 0, none⟩) n n) ∧ w.heap.size < g' ∧ Flat 2 w' g' n n (flatI (kit K)) ∧ BoxAt w' w.heap.size [.float .f64 0, .int .i64 0] ∧ BoxAt w' xb [.float .f64 x.b, .int .i64 x.v] ∧ Below w.heap.size w w' from by
    have hl2 := HL2.out
    have hW' := h2W.trans hW
    have hW0 : Below w.heap.size w W := hl2.trans (hW'.below (B := w.heap.size) hl2.size (fun k e => e.elim))
    refine (all_any b g d2 W (hH2.but hW' id id)).mono ?_
    rintro e w3 ⟨g3, rfl, hg3, hR3, hb3⟩
    rw [hsrt, hsz2] at *
    have hF := row_kit hR3
    rw [show K.length = n by have := HN.out; omega] at hF
    refine ⟨g3, rfl, ?_, hF, (hBA2.but hW' id).below hb3, (hX.but hW id).below hb3, hW0.trans (hb3.mono hW0.size)⟩
    have := hW'.size; omega))
  obtain ⟨q0, z0⟩ := (hBA2.but h2W id).get 0 _ rfl
  obtain ⟨q1, z1⟩ := (hBA2.but h2W id).get 1 _ rfl
  obtain ⟨x0, _⟩ := hX.get 0 _ rfl
  obtain ⟨x1, _⟩ := hX.get 1 _ rfl
  clear hH2 hd2 hb2 hp2 hsrt hb2' hBA2 hlow hT HB1 HD HB0 Hb0 h2W hX
  go_wp2_with fail
  go_region_with (go_at_call 173; refine (hA.out _ (by first | exact (But.refl _ _).drew | exact But.refl _ _)).mono ?_; rintro e w3 ⟨g3, rfl, hg3, hF3, hB3, hX3, hL3⟩; obtain ⟨p0, y0⟩ := hB3.get 0 _ rfl; obtain ⟨p1, y1⟩ := hB3.get 1 _ rfl; obtain ⟨s0, _⟩ := hX3.get 0 _ rfl; obtain ⟨s1, _⟩ := hX3.get 1 _ rfl; have HF3 := hidq (And.intro hF3 (And.intro hB3 hL3)); clear hF3 hB3 hX3 hL3)
  all_goals go_wp2
  all_goals
    have hBs := (HF3.out.2.1.set 0 (.float .f64 x.b)).set 1 (.int .i64 x.v)
    have t0 := (hBs.get 0 _ rfl).1
    have t1 := (hBs.get 1 _ rfl).1
    refine bodyPost_ret (v := .tuple #[.agg #[.float .f64 x.b, .int .i64 x.v], .slice (some ⟨g3, 0, none⟩) n n]) (by simp [results, Tryz.results170, go_sem, t0, t1]) rfl ⟨g3, n, rfl, Nat.le_of_lt hg3, HF3.out.1.but (((But.refl (fun k => k = w.heap.size) w3).set1 _ _ rfl _).set1 _ _ rfl _) (by omega), (HF3.out.2.2.setCell (Nat.le_refl _) _).setCell (Nat.le_refl _) _⟩
end Go.Proofs.YtbcmilfajeanbaaGreat

namespace Go.Proofs.YtbcmilfajeanbaaGreat
open Go.RowKit Go.Sort

/-- The first item of some, in order; a zero one if there is none. -/
def hd1 (K : List KI) : KI := K.headD default
/-- Which of two has the item that goes; false: there is none. -/
def mAhead (K0 K1 : List KI) : Int × Bool :=
  match K0, K1 with
  | [], [] => (0, false)
  | _ :: _, [] => (0, true)
  | [], _ :: _ => (1, true)
  | x :: _, y :: _ => if y.lt x = true then (1, true) else (0, true)

theorem mAhead_eq (K0 K1 : List KI) : mAhead K0 K1 = if (decide (K1 ≠ []) && (!decide (K0 ≠ []) || (hd1 K1).lt (hd1 K0))) = true then (1, true) else (0, decide (K0 ≠ [])) := by
  match K0, K1 with
  | [], [] => rfl
  | x :: K, [] => rfl
  | [], y :: L => rfl
  | x :: K, y :: L => unfold mAhead hd1; simp

/-- A pile of items in order, and its first one. -/
theorem newFirst_any (a : Option Addr) (cap n : Nat) (K : List KI) (w : World) (hn : n = K.length) (hb : n ≤ 1000) (ho : InOrder K) (h : SlAt 2 w a cap n (flatI (kit K))) :
    Calls Tryz.prog 171 #[.slice a n cap] w fun e w' => ∃ b, e = .returned (.pointer (some ⟨b, 0, none⟩)) ∧ Below w.heap.size w w' ∧
      Calls Tryz.prog 174 #[.pointer (some ⟨b, 0, none⟩)] w' fun e2 w2 => e2 = .returned (.tuple #[.agg #[.float .f64 (hd1 K).b, .int .i64 (hd1 K).v], .bool (decide (K ≠ []))]) ∧ Below w'.heap.size w' w2 := by
  refine (new_any a n cap _ _ w (items_of hn h) (by omega)).mono ?_
  rintro e w1 ⟨b, g, d, rfl, hbb, hg, hH, hd, hb1⟩
  rw [can_kit K n hn] at hd
  refine ⟨b, rfl, hb1, ?_⟩
  match K, hn, ho, hd with
  | [], hn, _, hd =>
    have hs : d.size = 0 := by have := hd.length_eq; simpa using this
    exact first_none b g d w1 hH hs
  | x :: K, hn, ho, hd =>
    have hs : 0 < d.size := by have := hd.length_eq; simp at this; omega
    have := first_some b g d w1 hH hs
    rw [first_head hd hs hH.first ho] at this
    exact this

set_option maxHeartbeats 2000000 in
theorem ahead_any (v0 n0 v1 n1 : Int) (a0 a1 : Option Addr) (c0 c1 l0 l1 : Nat) (K0 K1 : List KI) (w : World) (h0 : SlAt 2 w a0 c0 l0 (flatI (kit K0))) (h1 : SlAt 2 w a1 c1 l1 (flatI (kit K1))) (hl0 : l0 = K0.length) (hl1 : l1 = K1.length)
    (hb0 : l0 ≤ 1000) (hb1 : l1 ≤ 1000) (ho0 : InOrder K0) (ho1 : InOrder K1) :
    Calls Tryz.prog 169 #[.agg #[.int .u64 v0, .int .i64 n0, .slice a0 l0 c0, .int .u64 v1, .int .i64 n1, .slice a1 l1 c1]] w fun e w' => e = .returned (.tuple #[.int .i64 (mAhead K0 K1).1, .bool (mAhead K0 K1).2]) ∧ Below w.heap.size w w' := by
  have hsf := run_store_flt (P := Tryz.prog)
  have hB0 : BoxAt (w.alloc (.cells #[.int .u64 v0, .int .i64 n0, .slice a0 l0 c0, .int .u64 v1, .int .i64 n1, .slice a1 l1 c1] 95)) w.heap.size [.int .u64 v0, .int .i64 n0, .slice a0 l0 c0, .int .u64 v1, .int .i64 n1, .slice a1 l1 c1] := BoxAt.new w _ 95
  have hw0 : Below w.heap.size w (w.alloc (.cells #[.int .u64 v0, .int .i64 n0, .slice a0 l0 c0, .int .u64 v1, .int .i64 n1, .slice a1 l1 c1] 95)) := (Below.refl _ _).alloc (Nat.le_refl _) _
  have hC0 := hidq (newFirst_any a0 c0 l0 K0 _ hl0 hb0 ho0 (h0.below hw0))
  have hC1 := hidq (fun W (hW : Below w.heap.size w W) => newFirst_any a1 c1 l1 K1 W hl1 hb1 ho1 (h1.below hW))
  have Hw0 := hidq hw0
  have HK := hidq (And.intro hl0 (And.intro hl1 (And.intro ho0 ho1)))
  have HR := hidq (mAhead_eq K0 K1)
  generalize mAhead K0 K1 = r at *
  clear h0 h1 hl0 hl1 ho0 ho1 hw0 HK
  generalize decide (K0 ≠ []) = s0 at *
  generalize decide (K1 ≠ []) = s1 at *
  generalize hd1 K0 = x at *
  generalize hd1 K1 = y at *
  have hD0 := (hB0.get 5 _ rfl).1
  go_enter Tryz.func169, Tryz.ntmps169
  go_wp2_with fail
  refine hC0.out.mono ?_
  rintro e w1 ⟨b0, rfl, hb1', hF0⟩
  have HF0 := hidq hF0
  clear hF0
  have hB1 := hB0.below hb1'
  have HL1 := hidq (Hw0.out.trans (hb1'.mono Hw0.out.size))
  clear hb1'
  go_wp2_with fail
  refine HF0.out.mono ?_
  rintro e w2 ⟨rfl, hb2⟩
  have hB2 := hB1.below hb2
  have HL2 := hidq (HL1.out.trans (hb2.mono HL1.out.size))
  clear hb2
  have hX2 : BoxAt (w2.alloc (.cells #[.float .f64 x.b, .int .i64 x.v] 40)) w2.heap.size [.float .f64 x.b, .int .i64 x.v] := BoxAt.new w2 _ 40
  have HL3 := hidq (HL2.out.alloc HL2.out.size (.cells #[.float .f64 x.b, .int .i64 x.v] 40))
  have hd2 := ((hB2.below ((Below.refl w2.heap.size w2).alloc (Nat.le_refl _) (.cells #[.float .f64 x.b, .int .i64 x.v] 40))).get 5 _ rfl).1
  clear hB0 hB1 hD0 HF0 hC0 Hw0
  go_wp2_with fail
  refine (hC1.out _ HL3.out).mono ?_
  rintro e w4 ⟨b1, rfl, hb4, hF1⟩
  have HF1 := hidq hF1
  have hX4 := hX2.below hb4
  have HL4 := hidq (HL3.out.trans (hb4.mono HL3.out.size))
  clear hF1 hb4 hX2 hd2 HL3 hC1 hB2
  go_wp2_with fail
  refine HF1.out.mono ?_
  rintro e w5 ⟨rfl, hb5⟩
  have hX5 := hX4.below hb5
  have HL5 := hidq (HL4.out.trans (hb5.mono HL4.out.size))
  clear hb5 hX4 HL4 HF1
  obtain ⟨x0, _⟩ := hX5.get 0 _ rfl
  obtain ⟨x1, _⟩ := hX5.get 1 _ rfl
  have hxl := hX5.lt
  clear hX5
  have hC := fun w => icmp_any y.b x.b y.v x.v w y.ok.1 x.ok.1
  have HB6 := hidq (HL5.out.alloc HL5.out.size (.cells #[.float .f64 y.b, .int .i64 y.v] 40))
  cases s1
  · have hr : r = (0, s0) := HR.out
    clear HR hC
    go_wp2
    go_ret2
    exact ⟨by rw [hr]; rfl, HB6.out⟩
  · cases s0
    · have hr : r = (1, true) := HR.out
      clear HR hC
      go_wp2
      go_ret2
      exact ⟨by rw [hr]; rfl, HB6.out⟩
    · have hr0 : r = if (true && (!true || y.lt x)) = true then (1, true) else (0, true) := HR.out
      cases hlt : y.lt x
      · have hr : r = (0, true) := by rw [hr0, hlt]; rfl
        have hd : decide (cmpN y.b y.v x.b x.v < 0) = false := hlt
        generalize cmpN y.b y.v x.b x.v = c at *
        clear HR hr0 hlt
        go_wp2_with fail
        refine (hC _).mono ?_
        rintro e w6 ⟨rfl, hw6⟩
        have HB7 := hidq (show Below w.heap.size w w6 from by rw [hw6]; have := HB6.out.size; exact (HB6.out.alloc this _).alloc (by rw [World.size_alloc] at this; rw [World.size_alloc, World.size_alloc]; omega) _)
        clear hw6 hC
        go_wp2
        go_ret2
        exact ⟨by rw [hr]; rfl, HB7.out⟩
      · have hr : r = (1, true) := by rw [hr0, hlt]; rfl
        have hd : decide (cmpN y.b y.v x.b x.v < 0) = true := hlt
        have hd2 : cmpN y.b y.v x.b x.v < 0 := of_decide_eq_true hd
        generalize cmpN y.b y.v x.b x.v = c at *
        clear HR hr0 hlt
        go_wp2_with fail
        refine (hC _).mono ?_
        rintro e w6 ⟨rfl, hw6⟩
        have HB7 := hidq (show Below w.heap.size w w6 from by rw [hw6]; have := HB6.out.size; exact (HB6.out.alloc this _).alloc (by rw [World.size_alloc] at this; rw [World.size_alloc, World.size_alloc]; omega) _)
        clear hw6 hC
        go_wp2
        go_ret2
        exact ⟨by rw [hr]; rfl, HB7.out⟩
end Go.Proofs.YtbcmilfajeanbaaGreat

namespace Go.Proofs.YtbcmilfajeanbaaGreat
open Go.RowKit Go.Sort

def read8R0 (b fb sb lo : Nat) (sh : Int) (M : Mem) (F : Fr) : List (Value → World → Prop) :=
  [fun v _ => v = .pointer (some ⟨fb, 0, none⟩),
   fun v _ => v = .int .i64 0,
   fun v _ => v = .pointer (some ⟨b, 0, none⟩),
   fun v _ => v = .pointer (some ⟨fb, 0, none⟩),
   fun v _ => v = .int .i64 0,
   fun v _ => v = .pointer (some ⟨fb, 0, none⟩),
   fun v _ => v = .pointer (some ⟨fb, 0, none⟩),
   fun v _ => v = .pointer (some ⟨fb, 3, none⟩),
   fun v _ => v = .pointer (some ⟨fb, 3, none⟩),
   fun v _ => v = .int .i64 F.d0,
   fun v _ => v = .pointer (some ⟨sb, 0, none⟩),
   fun v _ => v = .int .i64 sh,
   fun v _ => v = .int .i64 (into F.d0 sh),
   fun v w => ∃ a c, v = .agg #[.int .u64 (M.look (into F.d0 sh)).ver, .int .i64 (M.look (into F.d0 sh)).n, .slice a (M.look (into F.d0 sh)).L.length c] ∧ SlAt 2 w a c (M.look (into F.d0 sh)).L.length (flatI (M.look (into F.d0 sh)).L) ∧ (∀ j, inB a j → lo ≤ j),
   fun v _ => v = .pointer (some ⟨fb, 0, none⟩),
   fun v _ => v = .pointer (some ⟨fb, 11, none⟩)]
theorem read8R0_kept (b fb sb lo : Nat) (sh : Int) (M : Mem) (F : Fr) : Reg.AllKept Reg.Keeps (read8R0 b fb sb lo sh M F) :=
  ⟨(fun _ _ _ _ h => h), (fun _ _ _ _ h => h), (fun _ _ _ _ h => h), (fun _ _ _ _ h => h), (fun _ _ _ _ h => h), (fun _ _ _ _ h => h), (fun _ _ _ _ h => h), (fun _ _ _ _ h => h), (fun _ _ _ _ h => h), (fun _ _ _ _ h => h), (fun _ _ _ _ h => h), (fun _ _ _ _ h => h), (fun _ _ _ _ h => h), (fun v w w' hk h => by obtain ⟨a, c, h1, h2, h3⟩ := h; exact ⟨a, c, h1, h2.below hk, h3⟩), (fun _ _ _ _ h => h), (fun _ _ _ _ h => h), trivial⟩

set_option maxRecDepth 20000 in
set_option maxHeartbeats 4000000 in
theorem read8_0 (sh : Int) (w : World) (b fb : Nat) (O P : Nat → Prop) (M : Mem) (F : Fr) (h : MemAt w b O M) (hf : FrAt w fb P F) (hd : ∀ k, O k → ¬ P k) (hs : 1 ≤ sh ∧ sh ≤ 16) :
    Calls Tryz.prog 164 #[.agg #[.int .i64 sh], .pointer (some ⟨b, 0, none⟩), .pointer (some ⟨fb, 0, none⟩), .int .i64 0] w (RdEnd b fb O P M { F with c0 := M.look (into F.d0 sh) } w) := by
  obtain ⟨a0, k0, a1, k1, hB, hS0, hS1, hi0, hi1⟩ := hf.box
  have hfl := hB.lt
  have cd := (hB.get 3 _ rfl).1
  have hO : ¬ O fb := fun e => hd _ e hf.ob
  have HH := hidq (And.intro h (And.intro hf hd))
  have HB := hidq (And.intro hB (And.intro hS0 (And.intro hS1 (And.intro hi0 hi1))))
  go_enter Tryz.func164, Tryz.ntmps164
  go_wp2_with fail
  obtain ⟨sb, hsb⟩ : ∃ sb, w.heap.size = sb := ⟨_, rfl⟩
  obtain ⟨W1, hW1⟩ : ∃ W1, w.alloc (.cells #[.int .i64 sh] 147) = W1 := ⟨_, rfl⟩
  have hb0 : Below w.heap.size w W1 := by rw [← hW1]; exact (Below.refl _ _).alloc (Nat.le_refl _) _
  have hR0 : BoxAt W1 sb [.int .i64 sh] := by rw [← hW1, ← hsb]; exact BoxAt.new w _ _
  have hsz0 : W1.heap.size = sb + 1 := by rw [← hW1, ← hsb]; simp
  rw [hW1]
  clear hW1
  have r0 := (hR0.get 0 _ rfl).1
  have hrl := hR0.lt
  have hIn := fun w => into_any F.d0 sh w (by omega)
  have hR := hidq (fun W (hW : Below W1.heap.size W1 W) => read5_any b O M (into F.d0 sh) W (h.below (hb0.trans (hW.mono hb0.size))))
  have FC := hidq (fun W (hW : Below W1.heap.size W1 W) => And.intro (((hb0.trans (hW.mono hb0.size)).cell (p := ⟨fb, 3, none⟩) hfl).trans cd) ((hW.cell (p := ⟨sb, 0, none⟩) hrl).trans r0))
  obtain ⟨lo, hlo⟩ : ∃ lo, W1.heap.size = lo := ⟨_, rfl⟩
  rw [hsb]
  clear h hf hd hB hS0 hS1 hi0 hi1 cd
  have hrefl : ∀ w : World, Reg.Keeps w w := Reg.Keeps.refl
  refine Reg.wp_region_props_tail 16 (Reg.ofList (read8R0 b fb sb lo sh M F)) Reg.Keeps (fun _ w => Reg.Keeps W1 w) (by kernel_rfl) (by kernel_rfl) (by kernel_rfl) (Reg.AllKept.at _ (read8R0_kept b fb sb lo sh M F)) hrefl (Reg.Keeps.drewN (Reg.Keeps.refl _) 1) ⟨?_, ?_, ?_, ?_, ?_, ?_, ?_, ?_, ?_, ?_, ?_, ?_, ?_, ?_, ?_, ?_, trivial⟩ ?_
  · refine Reg.StepAt.plain (i := 0) rfl ?_
    intro L ev w hI hk hp hA
    have e2 : ev (.tmp 2) = .pointer (some ⟨fb, 0, none⟩) := hA.oldNone 2 (by kernel_rfl)
    have hcc := hA.const
    clear hA hp
    refine Reg.out_value (v := .pointer (some ⟨fb, 0, none⟩)) ?_ ⟨rfl, hrefl _, hI⟩
    go_simp
  · refine Reg.StepAt.plain (i := 1) rfl ?_
    intro L ev w hI hk hp hA
    have e3 : ev (.tmp 3) = .int .i64 0 := hA.oldNone 3 (by kernel_rfl)
    have hcc := hA.const
    clear hA hp
    refine Reg.out_value (v := .int .i64 0) ?_ ⟨rfl, hrefl _, hI⟩
    go_simp
  · refine Reg.StepAt.plain (i := 2) rfl ?_
    intro L ev w hI hk hp hA
    have e1 : ev (.tmp 1) = .pointer (some ⟨b, 0, none⟩) := hA.oldNone 1 (by kernel_rfl)
    have hcc := hA.const
    clear hA hp
    refine Reg.out_value (v := .pointer (some ⟨b, 0, none⟩)) ?_ ⟨rfl, hrefl _, hI⟩
    go_simp
  · refine Reg.StepAt.plain (i := 3) rfl ?_
    intro L ev w hI hk hp hA
    have e2 : ev (.tmp 2) = .pointer (some ⟨fb, 0, none⟩) := hA.oldNone 2 (by kernel_rfl)
    have hcc := hA.const
    clear hA hp
    refine Reg.out_value (v := .pointer (some ⟨fb, 0, none⟩)) ?_ ⟨rfl, hrefl _, hI⟩
    go_simp
  · refine Reg.StepAt.plain (i := 4) rfl ?_
    intro L ev w hI hk hp hA
    have e3 : ev (.tmp 3) = .int .i64 0 := hA.oldNone 3 (by kernel_rfl)
    have hcc := hA.const
    clear hA hp
    refine Reg.out_value (v := .int .i64 0) ?_ ⟨rfl, hrefl _, hI⟩
    go_simp
  · refine Reg.StepAt.plain (i := 5) rfl ?_
    intro L ev w hI hk hp hA
    have e11 : ev (.tmp 11) = .pointer (some ⟨fb, 0, none⟩) := hA.val 3 _ 11 rfl (hp ⟨3, .data⟩ (by simp) rfl) rfl
    have hcc := hA.const
    clear hA hp
    refine Reg.out_value (v := .pointer (some ⟨fb, 0, none⟩)) ?_ ⟨rfl, hrefl _, hI⟩
    go_simp
  · refine Reg.StepAt.plain (i := 6) rfl ?_
    intro L ev w hI hk hp hA
    have e13 : ev (.tmp 13) = .pointer (some ⟨fb, 0, none⟩) := hA.val 5 _ 13 rfl (hp ⟨5, .data⟩ (by simp) rfl) rfl
    have hcc := hA.const
    clear hA hp
    refine Reg.out_value (v := .pointer (some ⟨fb, 0, none⟩)) ?_ ⟨rfl, hrefl _, hI⟩
    go_simp
  · refine Reg.StepAt.plain (i := 7) rfl ?_
    intro L ev w hI hk hp hA
    have e14 : ev (.tmp 14) = .pointer (some ⟨fb, 0, none⟩) := hA.val 6 _ 14 rfl (hp ⟨6, .data⟩ (by simp) rfl) rfl
    have hcc := hA.const
    clear hA hp
    refine Reg.out_value (v := .pointer (some ⟨fb, 3, none⟩)) ?_ ⟨rfl, hrefl _, hI⟩
    go_simp
  · refine Reg.StepAt.plain (i := 8) rfl ?_
    intro L ev w hI hk hp hA
    have e15 : ev (.tmp 15) = .pointer (some ⟨fb, 3, none⟩) := hA.val 7 _ 15 rfl (hp ⟨7, .data⟩ (by simp) rfl) rfl
    have e12 : ev (.tmp 12) = .int .i64 0 := hA.val 4 _ 12 rfl (hp ⟨4, .data⟩ (by simp) rfl) rfl
    have hcc := hA.const
    clear hA hp
    refine Reg.out_value (v := .pointer (some ⟨fb, 3, none⟩)) ?_ ⟨rfl, hrefl _, hI⟩
    go_simp
  · refine Reg.StepAt.plain (i := 9) rfl ?_
    intro L ev w hI hk hp hA
    have e16 : ev (.tmp 16) = .pointer (some ⟨fb, 3, none⟩) := hA.val 8 _ 16 rfl (hp ⟨8, .data⟩ (by simp) rfl) rfl
    have hcc := hA.const
    clear hA hp
    obtain ⟨f1, f2⟩ := FC.out w hI
    refine Reg.out_value (v := .int .i64 F.d0) ?_ ⟨rfl, hrefl _, hI⟩
    go_simp
  · refine Reg.StepAt.plain (i := 10) rfl ?_
    intro L ev w hI hk hp hA
    have e4 : ev (.tmp 4) = .pointer (some ⟨sb, 0, none⟩) := hA.oldNone 4 (by kernel_rfl)
    have hcc := hA.const
    clear hA hp
    refine Reg.out_value (v := .pointer (some ⟨sb, 0, none⟩)) ?_ ⟨rfl, hrefl _, hI⟩
    go_simp
  · refine Reg.StepAt.plain (i := 11) rfl ?_
    intro L ev w hI hk hp hA
    have e18 : ev (.tmp 18) = .pointer (some ⟨sb, 0, none⟩) := hA.val 10 _ 18 rfl (hp ⟨10, .data⟩ (by simp) rfl) rfl
    have hcc := hA.const
    clear hA hp
    obtain ⟨f1, f2⟩ := FC.out w hI
    refine Reg.out_value (v := .int .i64 sh) ?_ ⟨rfl, hrefl _, hI⟩
    go_simp
  · refine Reg.StepAt.plain (i := 12) rfl ?_
    intro L ev w hI hk hp hA
    have e17 : ev (.tmp 17) = .int .i64 F.d0 := hA.val 9 _ 17 rfl (hp ⟨9, .data⟩ (by simp) rfl) rfl
    have e19 : ev (.tmp 19) = .int .i64 sh := hA.val 11 _ 19 rfl (hp ⟨11, .data⟩ (by simp) rfl) rfl
    have hcc := hA.const
    have hcf := hA.func
    clear hA hp
    refine Reg.out_call (f := 35) (args := #[.int .i64 F.d0, .int .i64 sh]) (w0 := w) ?_ ?_
    · go_simp
    refine (hIn w).mono ?_
    rintro e w' ⟨rfl, hw'⟩
    subst hw'; exact ⟨_, rfl, rfl, hrefl _, hI⟩
  · refine Reg.StepAt.plain (i := 13) rfl ?_
    intro L ev w hI hk hp hA
    have e10 : ev (.tmp 10) = .pointer (some ⟨b, 0, none⟩) := hA.val 2 _ 10 rfl (hp ⟨2, .data⟩ (by simp) rfl) rfl
    have e20 : ev (.tmp 20) = .int .i64 (into F.d0 sh) := hA.val 12 _ 20 rfl (hp ⟨12, .data⟩ (by simp) rfl) rfl
    have hcc := hA.const
    have hcf := hA.func
    clear hA hp
    refine Reg.out_call (f := 80) (args := #[.pointer (some ⟨b, 0, none⟩), .int .i64 (into F.d0 sh)]) (w0 := w) ?_ ?_
    · go_simp
    refine (hR.out w hI).mono ?_
    rintro e w' ⟨a', c', rfl, hs', hn', hb'⟩
    exact ⟨_, rfl, ⟨a', c', rfl, hs', fun j hj => by have := hn' j hj; have h1 : W1.heap.size ≤ w.heap.size := hI.size; omega⟩, hb', Reg.Keeps.trans hI hb'⟩
  · refine Reg.StepAt.plain (i := 14) rfl ?_
    intro L ev w hI hk hp hA
    have e8 : ev (.tmp 8) = .pointer (some ⟨fb, 0, none⟩) := hA.val 0 _ 8 rfl (hp ⟨0, .data⟩ (by simp) rfl) rfl
    have hcc := hA.const
    clear hA hp
    refine Reg.out_value (v := .pointer (some ⟨fb, 0, none⟩)) ?_ ⟨rfl, hrefl _, hI⟩
    go_simp
  · refine Reg.StepAt.plain (i := 15) rfl ?_
    intro L ev w hI hk hp hA
    have e22 : ev (.tmp 22) = .pointer (some ⟨fb, 0, none⟩) := hA.val 14 _ 22 rfl (hp ⟨14, .data⟩ (by simp) rfl) rfl
    have hcc := hA.const
    clear hA hp
    refine Reg.out_value (v := .pointer (some ⟨fb, 11, none⟩)) ?_ ⟨rfl, hrefl _, hI⟩
    go_simp
  intro act wz hI hF
  have g8 : act.eval (.tmp 8) = .pointer (some ⟨fb, 0, none⟩) := hF.val 0 _ 8 rfl (by kernel_rfl) rfl
  have g9 : act.eval (.tmp 9) = .int .i64 0 := hF.val 1 _ 9 rfl (by kernel_rfl) rfl
  have g10 : act.eval (.tmp 10) = .pointer (some ⟨b, 0, none⟩) := hF.val 2 _ 10 rfl (by kernel_rfl) rfl
  have g11 : act.eval (.tmp 11) = .pointer (some ⟨fb, 0, none⟩) := hF.val 3 _ 11 rfl (by kernel_rfl) rfl
  have g12 : act.eval (.tmp 12) = .int .i64 0 := hF.val 4 _ 12 rfl (by kernel_rfl) rfl
  have g13 : act.eval (.tmp 13) = .pointer (some ⟨fb, 0, none⟩) := hF.val 5 _ 13 rfl (by kernel_rfl) rfl
  have g14 : act.eval (.tmp 14) = .pointer (some ⟨fb, 0, none⟩) := hF.val 6 _ 14 rfl (by kernel_rfl) rfl
  have g15 : act.eval (.tmp 15) = .pointer (some ⟨fb, 3, none⟩) := hF.val 7 _ 15 rfl (by kernel_rfl) rfl
  have g16 : act.eval (.tmp 16) = .pointer (some ⟨fb, 3, none⟩) := hF.val 8 _ 16 rfl (by kernel_rfl) rfl
  have g17 : act.eval (.tmp 17) = .int .i64 F.d0 := hF.val 9 _ 17 rfl (by kernel_rfl) rfl
  have g18 : act.eval (.tmp 18) = .pointer (some ⟨sb, 0, none⟩) := hF.val 10 _ 18 rfl (by kernel_rfl) rfl
  have g19 : act.eval (.tmp 19) = .int .i64 sh := hF.val 11 _ 19 rfl (by kernel_rfl) rfl
  have g20 : act.eval (.tmp 20) = .int .i64 (into F.d0 sh) := hF.val 12 _ 20 rfl (by kernel_rfl) rfl
  have g21 : (fun v w => ∃ a c, v = .agg #[.int .u64 (M.look (into F.d0 sh)).ver, .int .i64 (M.look (into F.d0 sh)).n, .slice a (M.look (into F.d0 sh)).L.length c] ∧ SlAt 2 w a c (M.look (into F.d0 sh)).L.length (flatI (M.look (into F.d0 sh)).L) ∧ (∀ j, inB a j → lo ≤ j)) (act.eval (.tmp 21)) wz := hF.val 13 _ 21 rfl (by kernel_rfl) rfl
  have g22 : act.eval (.tmp 22) = .pointer (some ⟨fb, 0, none⟩) := hF.val 14 _ 22 rfl (by kernel_rfl) rfl
  have g23 : act.eval (.tmp 23) = .pointer (some ⟨fb, 11, none⟩) := hF.val 15 _ 23 rfl (by kernel_rfl) rfl
  have hact := hF.actHead [8, 9, 10, 11, 12, 13, 14, 15, 16, 17, 18, 19, 20, 21, 22, 23] (by kernel_rfl)
  clear hF
  simp only [List.foldl_cons, List.foldl_nil] at hact
  rw [g8, g9, g10, g11, g12, g13, g14, g15, g16, g17, g18, g19, g20, g22, g23] at hact
  clear g8 g9 g10 g11 g12 g13 g14 g15 g16 g17 g18 g19 g20 g22 g23
  generalize act.eval (.tmp 21) = u21 at hact g21
  simp only [List.setIfInBounds_toArray, List.set_cons_succ, List.set_cons_zero] at hact
  subst hact
  simp only [List.drop_succ_cons, List.drop_zero]
  obtain ⟨a2, k2, rfl, hS2, hn2⟩ := g21
  have hb2 : Below w.heap.size w wz := hb0.trans (Below.mono hI hb0.size)
  obtain ⟨HM, HF, HD⟩ := HH.out
  obtain ⟨hB, hS0, hS1, hi0, hi1⟩ := HB.out
  have hB2 := hB.below hb2
  have hlow : w.heap.size < lo := by omega
  have FIN := hidq (rdEnd_of (w := w) (P := P) (F' := { F with c0 := M.look (into F.d0 sh) }) [(11, .int .u64 (M.look (into F.d0 sh)).ver), (12, .int .i64 (M.look (into F.d0 sh)).n), (13, .slice a2 (M.look (into F.d0 sh)).L.length k2)]
    (HM.below hb2) (But.of_below hb2) HF.ob hB2 rfl hO
    hS2 (fun j hj => by have := hn2 j hj; exact ⟨by omega, fun e => by have := HM.lt _ e; omega, .inr (by omega)⟩)
    (hS1.below hb2) (fun j hj => ⟨(hi1 j hj).2, fun e => HD _ e (hi1 j hj).1, .inl (hi1 j hj).1⟩))
  obtain ⟨q0, z0⟩ := hB2.get 11 _ rfl
  obtain ⟨q1, z1⟩ := hB2.get 12 _ rfl
  obtain ⟨q2, z2⟩ := hB2.get 13 _ rfl
  clear hb2 hB2 HM HF HD hB hS0 hS1 hi0 hi1 hb0 HH HB hR FC hI hS2 hn2 hR0
  go_wp2
  go_end0
  exact FIN.out
def read8R1 (b fb sb lo : Nat) (sh : Int) (M : Mem) (F : Fr) : List (Value → World → Prop) :=
  [fun v _ => v = .pointer (some ⟨fb, 0, none⟩),
   fun v _ => v = .int .i64 1,
   fun v _ => v = .pointer (some ⟨b, 0, none⟩),
   fun v _ => v = .pointer (some ⟨fb, 0, none⟩),
   fun v _ => v = .int .i64 1,
   fun v _ => v = .pointer (some ⟨fb, 0, none⟩),
   fun v _ => v = .pointer (some ⟨fb, 0, none⟩),
   fun v _ => v = .pointer (some ⟨fb, 3, none⟩),
   fun v _ => v = .pointer (some ⟨fb, 4, none⟩),
   fun v _ => v = .int .i64 F.d1,
   fun v _ => v = .pointer (some ⟨sb, 0, none⟩),
   fun v _ => v = .int .i64 sh,
   fun v _ => v = .int .i64 (into F.d1 sh),
   fun v w => ∃ a c, v = .agg #[.int .u64 (M.look (into F.d1 sh)).ver, .int .i64 (M.look (into F.d1 sh)).n, .slice a (M.look (into F.d1 sh)).L.length c] ∧ SlAt 2 w a c (M.look (into F.d1 sh)).L.length (flatI (M.look (into F.d1 sh)).L) ∧ (∀ j, inB a j → lo ≤ j),
   fun v _ => v = .pointer (some ⟨fb, 0, none⟩),
   fun v _ => v = .pointer (some ⟨fb, 11, none⟩)]
theorem read8R1_kept (b fb sb lo : Nat) (sh : Int) (M : Mem) (F : Fr) : Reg.AllKept Reg.Keeps (read8R1 b fb sb lo sh M F) :=
  ⟨(fun _ _ _ _ h => h), (fun _ _ _ _ h => h), (fun _ _ _ _ h => h), (fun _ _ _ _ h => h), (fun _ _ _ _ h => h), (fun _ _ _ _ h => h), (fun _ _ _ _ h => h), (fun _ _ _ _ h => h), (fun _ _ _ _ h => h), (fun _ _ _ _ h => h), (fun _ _ _ _ h => h), (fun _ _ _ _ h => h), (fun _ _ _ _ h => h), (fun v w w' hk h => by obtain ⟨a, c, h1, h2, h3⟩ := h; exact ⟨a, c, h1, h2.below hk, h3⟩), (fun _ _ _ _ h => h), (fun _ _ _ _ h => h), trivial⟩

set_option maxRecDepth 20000 in
set_option maxHeartbeats 4000000 in
theorem read8_1 (sh : Int) (w : World) (b fb : Nat) (O P : Nat → Prop) (M : Mem) (F : Fr) (h : MemAt w b O M) (hf : FrAt w fb P F) (hd : ∀ k, O k → ¬ P k) (hs : 1 ≤ sh ∧ sh ≤ 16) :
    Calls Tryz.prog 164 #[.agg #[.int .i64 sh], .pointer (some ⟨b, 0, none⟩), .pointer (some ⟨fb, 0, none⟩), .int .i64 1] w (RdEnd b fb O P M { F with c1 := M.look (into F.d1 sh) } w) := by
  obtain ⟨a0, k0, a1, k1, hB, hS0, hS1, hi0, hi1⟩ := hf.box
  have hfl := hB.lt
  have cd := (hB.get 4 _ rfl).1
  have hO : ¬ O fb := fun e => hd _ e hf.ob
  have HH := hidq (And.intro h (And.intro hf hd))
  have HB := hidq (And.intro hB (And.intro hS0 (And.intro hS1 (And.intro hi0 hi1))))
  go_enter Tryz.func164, Tryz.ntmps164
  go_wp2_with fail
  obtain ⟨sb, hsb⟩ : ∃ sb, w.heap.size = sb := ⟨_, rfl⟩
  obtain ⟨W1, hW1⟩ : ∃ W1, w.alloc (.cells #[.int .i64 sh] 147) = W1 := ⟨_, rfl⟩
  have hb0 : Below w.heap.size w W1 := by rw [← hW1]; exact (Below.refl _ _).alloc (Nat.le_refl _) _
  have hR0 : BoxAt W1 sb [.int .i64 sh] := by rw [← hW1, ← hsb]; exact BoxAt.new w _ _
  have hsz0 : W1.heap.size = sb + 1 := by rw [← hW1, ← hsb]; simp
  rw [hW1]
  clear hW1
  have r0 := (hR0.get 0 _ rfl).1
  have hrl := hR0.lt
  have hIn := fun w => into_any F.d1 sh w (by omega)
  have hR := hidq (fun W (hW : Below W1.heap.size W1 W) => read5_any b O M (into F.d1 sh) W (h.below (hb0.trans (hW.mono hb0.size))))
  have FC := hidq (fun W (hW : Below W1.heap.size W1 W) => And.intro (((hb0.trans (hW.mono hb0.size)).cell (p := ⟨fb, 4, none⟩) hfl).trans cd) ((hW.cell (p := ⟨sb, 0, none⟩) hrl).trans r0))
  obtain ⟨lo, hlo⟩ : ∃ lo, W1.heap.size = lo := ⟨_, rfl⟩
  rw [hsb]
  clear h hf hd hB hS0 hS1 hi0 hi1 cd
  have hrefl : ∀ w : World, Reg.Keeps w w := Reg.Keeps.refl
  refine Reg.wp_region_props_tail 16 (Reg.ofList (read8R1 b fb sb lo sh M F)) Reg.Keeps (fun _ w => Reg.Keeps W1 w) (by kernel_rfl) (by kernel_rfl) (by kernel_rfl) (Reg.AllKept.at _ (read8R1_kept b fb sb lo sh M F)) hrefl (Reg.Keeps.drewN (Reg.Keeps.refl _) 1) ⟨?_, ?_, ?_, ?_, ?_, ?_, ?_, ?_, ?_, ?_, ?_, ?_, ?_, ?_, ?_, ?_, trivial⟩ ?_
  · refine Reg.StepAt.plain (i := 0) rfl ?_
    intro L ev w hI hk hp hA
    have e2 : ev (.tmp 2) = .pointer (some ⟨fb, 0, none⟩) := hA.oldNone 2 (by kernel_rfl)
    have hcc := hA.const
    clear hA hp
    refine Reg.out_value (v := .pointer (some ⟨fb, 0, none⟩)) ?_ ⟨rfl, hrefl _, hI⟩
    go_simp
  · refine Reg.StepAt.plain (i := 1) rfl ?_
    intro L ev w hI hk hp hA
    have e3 : ev (.tmp 3) = .int .i64 1 := hA.oldNone 3 (by kernel_rfl)
    have hcc := hA.const
    clear hA hp
    refine Reg.out_value (v := .int .i64 1) ?_ ⟨rfl, hrefl _, hI⟩
    go_simp
  · refine Reg.StepAt.plain (i := 2) rfl ?_
    intro L ev w hI hk hp hA
    have e1 : ev (.tmp 1) = .pointer (some ⟨b, 0, none⟩) := hA.oldNone 1 (by kernel_rfl)
    have hcc := hA.const
    clear hA hp
    refine Reg.out_value (v := .pointer (some ⟨b, 0, none⟩)) ?_ ⟨rfl, hrefl _, hI⟩
    go_simp
  · refine Reg.StepAt.plain (i := 3) rfl ?_
    intro L ev w hI hk hp hA
    have e2 : ev (.tmp 2) = .pointer (some ⟨fb, 0, none⟩) := hA.oldNone 2 (by kernel_rfl)
    have hcc := hA.const
    clear hA hp
    refine Reg.out_value (v := .pointer (some ⟨fb, 0, none⟩)) ?_ ⟨rfl, hrefl _, hI⟩
    go_simp
  · refine Reg.StepAt.plain (i := 4) rfl ?_
    intro L ev w hI hk hp hA
    have e3 : ev (.tmp 3) = .int .i64 1 := hA.oldNone 3 (by kernel_rfl)
    have hcc := hA.const
    clear hA hp
    refine Reg.out_value (v := .int .i64 1) ?_ ⟨rfl, hrefl _, hI⟩
    go_simp
  · refine Reg.StepAt.plain (i := 5) rfl ?_
    intro L ev w hI hk hp hA
    have e11 : ev (.tmp 11) = .pointer (some ⟨fb, 0, none⟩) := hA.val 3 _ 11 rfl (hp ⟨3, .data⟩ (by simp) rfl) rfl
    have hcc := hA.const
    clear hA hp
    refine Reg.out_value (v := .pointer (some ⟨fb, 0, none⟩)) ?_ ⟨rfl, hrefl _, hI⟩
    go_simp
  · refine Reg.StepAt.plain (i := 6) rfl ?_
    intro L ev w hI hk hp hA
    have e13 : ev (.tmp 13) = .pointer (some ⟨fb, 0, none⟩) := hA.val 5 _ 13 rfl (hp ⟨5, .data⟩ (by simp) rfl) rfl
    have hcc := hA.const
    clear hA hp
    refine Reg.out_value (v := .pointer (some ⟨fb, 0, none⟩)) ?_ ⟨rfl, hrefl _, hI⟩
    go_simp
  · refine Reg.StepAt.plain (i := 7) rfl ?_
    intro L ev w hI hk hp hA
    have e14 : ev (.tmp 14) = .pointer (some ⟨fb, 0, none⟩) := hA.val 6 _ 14 rfl (hp ⟨6, .data⟩ (by simp) rfl) rfl
    have hcc := hA.const
    clear hA hp
    refine Reg.out_value (v := .pointer (some ⟨fb, 3, none⟩)) ?_ ⟨rfl, hrefl _, hI⟩
    go_simp
  · refine Reg.StepAt.plain (i := 8) rfl ?_
    intro L ev w hI hk hp hA
    have e15 : ev (.tmp 15) = .pointer (some ⟨fb, 3, none⟩) := hA.val 7 _ 15 rfl (hp ⟨7, .data⟩ (by simp) rfl) rfl
    have e12 : ev (.tmp 12) = .int .i64 1 := hA.val 4 _ 12 rfl (hp ⟨4, .data⟩ (by simp) rfl) rfl
    have hcc := hA.const
    clear hA hp
    refine Reg.out_value (v := .pointer (some ⟨fb, 4, none⟩)) ?_ ⟨rfl, hrefl _, hI⟩
    go_simp
  · refine Reg.StepAt.plain (i := 9) rfl ?_
    intro L ev w hI hk hp hA
    have e16 : ev (.tmp 16) = .pointer (some ⟨fb, 4, none⟩) := hA.val 8 _ 16 rfl (hp ⟨8, .data⟩ (by simp) rfl) rfl
    have hcc := hA.const
    clear hA hp
    obtain ⟨f1, f2⟩ := FC.out w hI
    refine Reg.out_value (v := .int .i64 F.d1) ?_ ⟨rfl, hrefl _, hI⟩
    go_simp
  · refine Reg.StepAt.plain (i := 10) rfl ?_
    intro L ev w hI hk hp hA
    have e4 : ev (.tmp 4) = .pointer (some ⟨sb, 0, none⟩) := hA.oldNone 4 (by kernel_rfl)
    have hcc := hA.const
    clear hA hp
    refine Reg.out_value (v := .pointer (some ⟨sb, 0, none⟩)) ?_ ⟨rfl, hrefl _, hI⟩
    go_simp
  · refine Reg.StepAt.plain (i := 11) rfl ?_
    intro L ev w hI hk hp hA
    have e18 : ev (.tmp 18) = .pointer (some ⟨sb, 0, none⟩) := hA.val 10 _ 18 rfl (hp ⟨10, .data⟩ (by simp) rfl) rfl
    have hcc := hA.const
    clear hA hp
    obtain ⟨f1, f2⟩ := FC.out w hI
    refine Reg.out_value (v := .int .i64 sh) ?_ ⟨rfl, hrefl _, hI⟩
    go_simp
  · refine Reg.StepAt.plain (i := 12) rfl ?_
    intro L ev w hI hk hp hA
    have e17 : ev (.tmp 17) = .int .i64 F.d1 := hA.val 9 _ 17 rfl (hp ⟨9, .data⟩ (by simp) rfl) rfl
    have e19 : ev (.tmp 19) = .int .i64 sh := hA.val 11 _ 19 rfl (hp ⟨11, .data⟩ (by simp) rfl) rfl
    have hcc := hA.const
    have hcf := hA.func
    clear hA hp
    refine Reg.out_call (f := 35) (args := #[.int .i64 F.d1, .int .i64 sh]) (w0 := w) ?_ ?_
    · go_simp
    refine (hIn w).mono ?_
    rintro e w' ⟨rfl, hw'⟩
    subst hw'; exact ⟨_, rfl, rfl, hrefl _, hI⟩
  · refine Reg.StepAt.plain (i := 13) rfl ?_
    intro L ev w hI hk hp hA
    have e10 : ev (.tmp 10) = .pointer (some ⟨b, 0, none⟩) := hA.val 2 _ 10 rfl (hp ⟨2, .data⟩ (by simp) rfl) rfl
    have e20 : ev (.tmp 20) = .int .i64 (into F.d1 sh) := hA.val 12 _ 20 rfl (hp ⟨12, .data⟩ (by simp) rfl) rfl
    have hcc := hA.const
    have hcf := hA.func
    clear hA hp
    refine Reg.out_call (f := 80) (args := #[.pointer (some ⟨b, 0, none⟩), .int .i64 (into F.d1 sh)]) (w0 := w) ?_ ?_
    · go_simp
    refine (hR.out w hI).mono ?_
    rintro e w' ⟨a', c', rfl, hs', hn', hb'⟩
    exact ⟨_, rfl, ⟨a', c', rfl, hs', fun j hj => by have := hn' j hj; have h1 : W1.heap.size ≤ w.heap.size := hI.size; omega⟩, hb', Reg.Keeps.trans hI hb'⟩
  · refine Reg.StepAt.plain (i := 14) rfl ?_
    intro L ev w hI hk hp hA
    have e8 : ev (.tmp 8) = .pointer (some ⟨fb, 0, none⟩) := hA.val 0 _ 8 rfl (hp ⟨0, .data⟩ (by simp) rfl) rfl
    have hcc := hA.const
    clear hA hp
    refine Reg.out_value (v := .pointer (some ⟨fb, 0, none⟩)) ?_ ⟨rfl, hrefl _, hI⟩
    go_simp
  · refine Reg.StepAt.plain (i := 15) rfl ?_
    intro L ev w hI hk hp hA
    have e22 : ev (.tmp 22) = .pointer (some ⟨fb, 0, none⟩) := hA.val 14 _ 22 rfl (hp ⟨14, .data⟩ (by simp) rfl) rfl
    have hcc := hA.const
    clear hA hp
    refine Reg.out_value (v := .pointer (some ⟨fb, 11, none⟩)) ?_ ⟨rfl, hrefl _, hI⟩
    go_simp
  intro act wz hI hF
  have g8 : act.eval (.tmp 8) = .pointer (some ⟨fb, 0, none⟩) := hF.val 0 _ 8 rfl (by kernel_rfl) rfl
  have g9 : act.eval (.tmp 9) = .int .i64 1 := hF.val 1 _ 9 rfl (by kernel_rfl) rfl
  have g10 : act.eval (.tmp 10) = .pointer (some ⟨b, 0, none⟩) := hF.val 2 _ 10 rfl (by kernel_rfl) rfl
  have g11 : act.eval (.tmp 11) = .pointer (some ⟨fb, 0, none⟩) := hF.val 3 _ 11 rfl (by kernel_rfl) rfl
  have g12 : act.eval (.tmp 12) = .int .i64 1 := hF.val 4 _ 12 rfl (by kernel_rfl) rfl
  have g13 : act.eval (.tmp 13) = .pointer (some ⟨fb, 0, none⟩) := hF.val 5 _ 13 rfl (by kernel_rfl) rfl
  have g14 : act.eval (.tmp 14) = .pointer (some ⟨fb, 0, none⟩) := hF.val 6 _ 14 rfl (by kernel_rfl) rfl
  have g15 : act.eval (.tmp 15) = .pointer (some ⟨fb, 3, none⟩) := hF.val 7 _ 15 rfl (by kernel_rfl) rfl
  have g16 : act.eval (.tmp 16) = .pointer (some ⟨fb, 4, none⟩) := hF.val 8 _ 16 rfl (by kernel_rfl) rfl
  have g17 : act.eval (.tmp 17) = .int .i64 F.d1 := hF.val 9 _ 17 rfl (by kernel_rfl) rfl
  have g18 : act.eval (.tmp 18) = .pointer (some ⟨sb, 0, none⟩) := hF.val 10 _ 18 rfl (by kernel_rfl) rfl
  have g19 : act.eval (.tmp 19) = .int .i64 sh := hF.val 11 _ 19 rfl (by kernel_rfl) rfl
  have g20 : act.eval (.tmp 20) = .int .i64 (into F.d1 sh) := hF.val 12 _ 20 rfl (by kernel_rfl) rfl
  have g21 : (fun v w => ∃ a c, v = .agg #[.int .u64 (M.look (into F.d1 sh)).ver, .int .i64 (M.look (into F.d1 sh)).n, .slice a (M.look (into F.d1 sh)).L.length c] ∧ SlAt 2 w a c (M.look (into F.d1 sh)).L.length (flatI (M.look (into F.d1 sh)).L) ∧ (∀ j, inB a j → lo ≤ j)) (act.eval (.tmp 21)) wz := hF.val 13 _ 21 rfl (by kernel_rfl) rfl
  have g22 : act.eval (.tmp 22) = .pointer (some ⟨fb, 0, none⟩) := hF.val 14 _ 22 rfl (by kernel_rfl) rfl
  have g23 : act.eval (.tmp 23) = .pointer (some ⟨fb, 11, none⟩) := hF.val 15 _ 23 rfl (by kernel_rfl) rfl
  have hact := hF.actHead [8, 9, 10, 11, 12, 13, 14, 15, 16, 17, 18, 19, 20, 21, 22, 23] (by kernel_rfl)
  clear hF
  simp only [List.foldl_cons, List.foldl_nil] at hact
  rw [g8, g9, g10, g11, g12, g13, g14, g15, g16, g17, g18, g19, g20, g22, g23] at hact
  clear g8 g9 g10 g11 g12 g13 g14 g15 g16 g17 g18 g19 g20 g22 g23
  generalize act.eval (.tmp 21) = u21 at hact g21
  simp only [List.setIfInBounds_toArray, List.set_cons_succ, List.set_cons_zero] at hact
  subst hact
  simp only [List.drop_succ_cons, List.drop_zero]
  obtain ⟨a2, k2, rfl, hS2, hn2⟩ := g21
  have hb2 : Below w.heap.size w wz := hb0.trans (Below.mono hI hb0.size)
  obtain ⟨HM, HF, HD⟩ := HH.out
  obtain ⟨hB, hS0, hS1, hi0, hi1⟩ := HB.out
  have hB2 := hB.below hb2
  have hlow : w.heap.size < lo := by omega
  have FIN := hidq (rdEnd_of (w := w) (P := P) (F' := { F with c1 := M.look (into F.d1 sh) }) [(14, .int .u64 (M.look (into F.d1 sh)).ver), (15, .int .i64 (M.look (into F.d1 sh)).n), (16, .slice a2 (M.look (into F.d1 sh)).L.length k2)]
    (HM.below hb2) (But.of_below hb2) HF.ob hB2 rfl hO
    (hS0.below hb2) (fun j hj => ⟨(hi0 j hj).2, fun e => HD _ e (hi0 j hj).1, .inl (hi0 j hj).1⟩)
    hS2 (fun j hj => by have := hn2 j hj; exact ⟨by omega, fun e => by have := HM.lt _ e; omega, .inr (by omega)⟩))
  obtain ⟨q0, z0⟩ := hB2.get 14 _ rfl
  obtain ⟨q1, z1⟩ := hB2.get 15 _ rfl
  obtain ⟨q2, z2⟩ := hB2.get 16 _ rfl
  clear hb2 hB2 HM HF HD hB hS0 hS1 hi0 hi1 hb0 HH HB hR FC hI hS2 hn2 hR0
  go_wp2
  go_end0
  exact FIN.out
end Go.Proofs.YtbcmilfajeanbaaGreat

namespace Go.Proofs.YtbcmilfajeanbaaGreat
open Go.RowKit Go.Sort

/-- What a write comes to. -/
def WrEnd (b : Nat) (O : Nat → Prop) (M' : Mem) (r : Bool) (w : World) (e : Ending) (w' : World) : Prop :=
  e = .returned (.bool r) ∧ ∃ O', MemAt w' b O' M' ∧ Grown O w w' O' ∧ But O w w'

set_option maxRecDepth 20000 in
set_option maxHeartbeats 4000000 in
theorem write8_0 (sh : Int) (w : World) (b fb : Nat) (O P : Nat → Prop) (M : Mem) (F : Fr) (h : MemAt w b O M) (hf : FrAt w fb P F) (hs : 1 ≤ sh ∧ sh ≤ 16) (a : Option Addr) (cap n : Nat) (L : List It) (hn : L.length = n) (hS : SlAt 2 w a cap n (flatI L)) (hOa : ∀ j, inB a j → ¬ O j) (hL : n ≤ 1000000) (hck : M.clock < 4611686018427387904) :
    Calls Tryz.prog 167 #[.agg #[.int .i64 sh], .pointer (some ⟨b, 0, none⟩), .pointer (some ⟨fb, 0, none⟩), .int .i64 0, .slice a n cap] w (WrEnd b O (M.write (into F.d0 sh) F.c0.ver 0 L) (M.can (into F.d0 sh) F.c0.ver) w) := by
  obtain ⟨a0, k0, a1, k1, hB, _⟩ := hf.box
  have hfl := hB.lt
  have hIn := fun w => into_any F.d0 sh w (by omega)
  obtain ⟨W1, hW1⟩ : ∃ W1, w.alloc (.cells #[.int .i64 sh] 147) = W1 := ⟨_, rfl⟩
  have hb0 : Below w.heap.size w W1 := by rw [← hW1]; exact (Below.refl _ _).alloc (Nat.le_refl _) _
  have hR0 : BoxAt W1 w.heap.size [.int .i64 sh] := by rw [← hW1]; exact BoxAt.new w _ _
  have hsz0 : W1.heap.size = w.heap.size + 1 := by rw [← hW1]; simp
  have hB1 := hB.below hb0
  have cd := (hB1.get 3 _ rfl).1
  have cv := (hB1.get 11 _ rfl).1
  have r0 := (hR0.get 0 _ rfl).1
  generalize hat : into F.d0 sh = at_ at *
  subst hn
  have hWr := hidq (write_any b O M at_ F.c0.ver 0 a cap L W1.drew ((h.below hb0).but (S := fun _ => False) (But.refl _ _).drew (fun _ _ e => e)) ((hS.below hb0).but (S := fun _ => False) (But.refl _ _).drew (fun _ _ e => e)) hOa hL hck)
  have FIN := hidq (fun w3 (hM3 : MemAt w3 b (own' O W1.drew w3) (M.write at_ F.c0.ver 0 L)) (hb3 : But O W1.drew w3) => (show WrEnd b O (M.write at_ F.c0.ver 0 L) (M.can at_ F.c0.ver) w (.returned (.bool (M.can at_ F.c0.ver))) w3 from by
    have hb3' : But O W1 w3 := ⟨hb3.os, hb3.tape, hb3.output, hb3.size, hb3.block⟩
    refine ⟨rfl, _, hM3, fun j hj => ?_, (But.of_below hb0).trans hb3'⟩
    rcases hj with e | e
    · exact .inl e
    · exact .inr ⟨by have h1 : W1.heap.size ≤ j := e.1; omega, e.2⟩))
  clear h hf hS hOa hB hB1 hR0 hb0 hat
  go_enter Tryz.func167, Tryz.ntmps167
  go_wp2_with fail
  refine wp_region_still_tail 20 (by kernel_rfl) (by kernel_rfl) ?_
  simp only [List.take_succ_cons, List.take_zero, List.drop_succ_cons, List.drop_zero]
  repeat still_step
  still_call (hIn _)
  repeat still_step
  refine wpStill_nil ?_
  generalize hcan : M.can at_ F.c0.ver = can at *
  go_wp2_with fail
  refine hWr.out.mono ?_
  rintro e w3 ⟨rfl, hM3, hb3⟩
  have E := hidq (FIN.out w3 hM3 hb3)
  clear hM3 hb3 hWr FIN
  go_wp2
  go_ret
  exact E.out

set_option maxRecDepth 20000 in
set_option maxHeartbeats 4000000 in
theorem write8_1 (sh : Int) (w : World) (b fb : Nat) (O P : Nat → Prop) (M : Mem) (F : Fr) (h : MemAt w b O M) (hf : FrAt w fb P F) (hs : 1 ≤ sh ∧ sh ≤ 16) (a : Option Addr) (cap n : Nat) (L : List It) (hn : L.length = n) (hS : SlAt 2 w a cap n (flatI L)) (hOa : ∀ j, inB a j → ¬ O j) (hL : n ≤ 1000000) (hck : M.clock < 4611686018427387904) :
    Calls Tryz.prog 167 #[.agg #[.int .i64 sh], .pointer (some ⟨b, 0, none⟩), .pointer (some ⟨fb, 0, none⟩), .int .i64 1, .slice a n cap] w (WrEnd b O (M.write (into F.d1 sh) F.c1.ver 0 L) (M.can (into F.d1 sh) F.c1.ver) w) := by
  obtain ⟨a0, k0, a1, k1, hB, _⟩ := hf.box
  have hfl := hB.lt
  have hIn := fun w => into_any F.d1 sh w (by omega)
  obtain ⟨W1, hW1⟩ : ∃ W1, w.alloc (.cells #[.int .i64 sh] 147) = W1 := ⟨_, rfl⟩
  have hb0 : Below w.heap.size w W1 := by rw [← hW1]; exact (Below.refl _ _).alloc (Nat.le_refl _) _
  have hR0 : BoxAt W1 w.heap.size [.int .i64 sh] := by rw [← hW1]; exact BoxAt.new w _ _
  have hsz0 : W1.heap.size = w.heap.size + 1 := by rw [← hW1]; simp
  have hB1 := hB.below hb0
  have cd := (hB1.get 4 _ rfl).1
  have cv := (hB1.get 14 _ rfl).1
  have r0 := (hR0.get 0 _ rfl).1
  generalize hat : into F.d1 sh = at_ at *
  subst hn
  have hWr := hidq (write_any b O M at_ F.c1.ver 0 a cap L W1.drew ((h.below hb0).but (S := fun _ => False) (But.refl _ _).drew (fun _ _ e => e)) ((hS.below hb0).but (S := fun _ => False) (But.refl _ _).drew (fun _ _ e => e)) hOa hL hck)
  have FIN := hidq (fun w3 (hM3 : MemAt w3 b (own' O W1.drew w3) (M.write at_ F.c1.ver 0 L)) (hb3 : But O W1.drew w3) => (show WrEnd b O (M.write at_ F.c1.ver 0 L) (M.can at_ F.c1.ver) w (.returned (.bool (M.can at_ F.c1.ver))) w3 from by
    have hb3' : But O W1 w3 := ⟨hb3.os, hb3.tape, hb3.output, hb3.size, hb3.block⟩
    refine ⟨rfl, _, hM3, fun j hj => ?_, (But.of_below hb0).trans hb3'⟩
    rcases hj with e | e
    · exact .inl e
    · exact .inr ⟨by have h1 : W1.heap.size ≤ j := e.1; omega, e.2⟩))
  clear h hf hS hOa hB hB1 hR0 hb0 hat
  go_enter Tryz.func167, Tryz.ntmps167
  go_wp2_with fail
  refine wp_region_still_tail 20 (by kernel_rfl) (by kernel_rfl) ?_
  simp only [List.take_succ_cons, List.take_zero, List.drop_succ_cons, List.drop_zero]
  repeat still_step
  still_call (hIn _)
  repeat still_step
  refine wpStill_nil ?_
  generalize hcan : M.can at_ F.c1.ver = can at *
  go_wp2_with fail
  refine hWr.out.mono ?_
  rintro e w3 ⟨rfl, hM3, hb3⟩
  have E := hidq (FIN.out w3 hM3 hb3)
  clear hM3 hb3 hWr FIN
  go_wp2
  go_ret
  exact E.out
end Go.Proofs.YtbcmilfajeanbaaGreat

namespace Go.Proofs.YtbcmilfajeanbaaGreat
open Go.RowKit Go.Sort

/-- With one more. -/
def mWith (L : List It) (p : Nat) (v : Int) : List It := kit (srt (mkKI p v :: kis L))

/-- An Insert's step. -/
def insS (sh : Int) (M : Mem) (F : Fr) : Mem × Fr × Ans × Bool :=
  if F.pc = 0 then
    if 62 ≤ (M.look (into F.d0 sh)).L.length then (M, { F with c0 := M.look (into F.d0 sh) }, Ans.zero, true)
    else (M, { F with c0 := M.look (into F.d0 sh), pc := 2 }, Ans.zero, false)
  else (M.write (into F.d0 sh) F.c0.ver 0 (mWith F.c0.L F.pri F.val), { F with pc := 0 },
    (if M.can (into F.d0 sh) F.c0.ver = true then ⟨true, cbits F.pri, F.val, 0⟩ else Ans.zero), M.can (into F.d0 sh) F.c0.ver)
theorem insS_full {sh : Int} {M : Mem} {F : Fr} (hp : F.pc = 0) (hl : 62 ≤ (M.look (into F.d0 sh)).L.length) : insS sh M F = (M, { F with c0 := M.look (into F.d0 sh) }, Ans.zero, true) := by
  unfold insS; rw [if_pos hp, if_pos hl]
theorem insS_read {sh : Int} {M : Mem} {F : Fr} (hp : F.pc = 0) (hl : ¬ 62 ≤ (M.look (into F.d0 sh)).L.length) : insS sh M F = (M, { F with c0 := M.look (into F.d0 sh), pc := 2 }, Ans.zero, false) := by
  unfold insS; rw [if_pos hp, if_neg hl]
theorem insS_write {sh : Int} {M : Mem} {F : Fr} (hp : F.pc ≠ 0) (hc : M.can (into F.d0 sh) F.c0.ver = true) : insS sh M F = (M.write (into F.d0 sh) F.c0.ver 0 (mWith F.c0.L F.pri F.val), { F with pc := 0 }, ⟨true, cbits F.pri, F.val, 0⟩, true) := by
  unfold insS; rw [if_neg hp, if_pos hc, hc]
theorem insS_late {sh : Int} {M : Mem} {F : Fr} (hp : F.pc ≠ 0) (hc : M.can (into F.d0 sh) F.c0.ver = false) : insS sh M F = (M.write (into F.d0 sh) F.c0.ver 0 (mWith F.c0.L F.pri F.val), { F with pc := 0 }, Ans.zero, false) := by
  unfold insS; rw [if_neg hp, if_neg (by rw [hc]; decide), hc]

set_option maxRecDepth 20000 in
set_option maxHeartbeats 4000000 in
theorem ins_read (sh : Int) (w : World) (b fb : Nat) (O P : Nat → Prop) (M : Mem) (F : Fr) (h : MemAt w b O M) (hf : FrAt w fb P F) (hd : ∀ k, O k → ¬ P k) (hs : 1 ≤ sh ∧ sh ≤ 16) (hp : F.pc = 0) :
    Calls Tryz.prog 165 #[.agg #[.int .i64 sh], .pointer (some ⟨b, 0, none⟩), .pointer (some ⟨fb, 0, none⟩)] w (StepEnd b fb O P (insS sh M F) w) := by
  obtain ⟨a0, k0, a1, k1, hB, _⟩ := hf.box
  have hfl := hB.lt
  have hsf := run_store_flt (P := Tryz.prog)
  obtain ⟨W1, hW1, hb0, hsz0, hR0, hA0⟩ := two_new w [.int .i64 sh] Ans.zero.l 147 46 0
  have hW2 : (w.alloc (.cells #[.int .i64 sh] 147)).alloc (.cells #[.bool false, .float .f64 0, .int .i64 0, .int .i64 0] 46) = W1 := hW1
  clear hW1
  have r0 := (hR0.get 0 _ rfl).1
  have c5 := ((hB.below hb0).get 5 _ rfl).1
  rw [hp] at c5
  have HR := hidq (read8_0 sh W1 b fb O P M F (h.below hb0) (hf.below hb0) hd hs)
  have HH := hidq (And.intro h (And.intro hf hd))
  have HA := hidq hA0
  have HB0 := hidq hb0
  have HL := hidq (And.intro (insS_full (sh := sh) (M := M) hp) (insS_read (sh := sh) (M := M) hp))
  generalize insS sh M F = r at *
  clear h hf hd hB hb0 hR0 hA0 hp
  go_enter Tryz.func165, Tryz.ntmps165
  go_wp2_with fail
  refine HR.out.mono ?_
  rintro e w2 ⟨rfl, P2, hM2, hF2, hD2, hG2, hb2⟩
  obtain ⟨HM, HF, HD⟩ := HH.out
  have hs2 := hb2.size
  have hbut : But (fun k => O k ∨ P k) w w2 := (But.of_below HB0.out).trans (hb2.mono (fun _ _ e => .inr e))
  have hG : Grown P w w2 P2 := fun j hj => (hG2 j hj).imp id (fun e => ⟨by have := HB0.out.size; omega, e.2⟩)
  have hPa : ¬ P2 (w.heap.size + 1) := fun e => by
    rcases hG2 _ e with q | q
    · have := HF.lt _ q; omega
    · omega
  have hA2 := HA.out.but hb2 (fun e => by have := HF.lt _ e; omega)
  have FIN := hidq (fun (F' : Fr) (A : Ans) (dn : Bool) (s : List (Nat × Value)) hl hc0 hc1 => stepEnd_fr (F' := F') (A := A) (d := dn) s hM2 (Grown.refl O w w2) hF2 hG hD2 hbut HF.ob hA2 (Nat.le_succ _) (fun e => by have := HM.lt _ e; omega) hPa hl hc0 hc1)
  obtain ⟨a0, k0, a1, k1, hB2, _⟩ := hF2.box
  obtain ⟨d5, y5⟩ := hB2.get 5 _ rfl
  obtain ⟨d13, _⟩ := hB2.get 13 _ rfl
  obtain ⟨g0, x0⟩ := hA2.get 0 _ rfl
  obtain ⟨g1, x1⟩ := hA2.get 1 _ rfl
  obtain ⟨g2, x2⟩ := hA2.get 2 _ rfl
  obtain ⟨g3, x3⟩ := hA2.get 3 _ rfl
  have hfa : ¬ fb = w.heap.size + 1 := by omega
  clear hM2 hF2 hD2 hG2 hb2 hbut hG hPa hA2 HR HH HA HM HF HD HB0 hB2 c5 r0
  by_cases hl : 62 ≤ (M.look (into F.d0 sh)).L.length
  · have hr := hidq (HL.out.1 hl)
    have hl2 : (62 : Int) ≤ (((M.look (into F.d0 sh)).L.length : Nat) : Int) := by omega
    have F1 := hidq (FIN.out { F with c0 := M.look (into F.d0 sh) } Ans.zero true [] (fun _ _ _ _ => rfl) rfl rfl)
    clear FIN HL hl
    generalize (M.look (into F.d0 sh)).L.length = ln at *
    go_wp2
    exact ret_ans Tryz.results165 F1.out.1 rfl rfl rfl (by rw [hr.out]; exact F1.out.2)
  · have hr := hidq (HL.out.2 hl)
    have hl2 : ¬ (62 : Int) ≤ (((M.look (into F.d0 sh)).L.length : Nat) : Int) := by omega
    have hl3 : decide ((62 : Int) ≤ (((M.look (into F.d0 sh)).L.length : Nat) : Int)) = false := decide_eq_false hl2
    have F1 := hidq (FIN.out { F with c0 := M.look (into F.d0 sh), pc := 2 } Ans.zero false [(5, .int .i64 2)] (fun _ _ _ _ => rfl) rfl rfl)
    clear FIN HL hl
    generalize (M.look (into F.d0 sh)).L.length = ln at *
    go_wp2
    exact ret_ans Tryz.results165 F1.out.1 rfl rfl rfl (by rw [hr.out]; exact F1.out.2)
end Go.Proofs.YtbcmilfajeanbaaGreat

namespace Go.Proofs.YtbcmilfajeanbaaGreat
open Go.RowKit Go.Sort

def ins8R (b fb lo : Nat) (sh : Int) (a0 : Option Addr) (n0 k0 pri : Nat) (val : Int) (LL : List It) : List (Value → World → Prop) :=
  [fun v _ => v = .agg #[.int .i64 sh],
   fun v _ => v = .pointer (some ⟨b, 0, none⟩),
   fun v _ => v = .pointer (some ⟨fb, 0, none⟩),
   fun v _ => v = .pointer (some ⟨fb, 0, none⟩),
   fun v _ => v = .pointer (some ⟨fb, 0, none⟩),
   fun v _ => v = .pointer (some ⟨fb, 11, none⟩),
   fun v _ => v = .pointer (some ⟨fb, 11, none⟩),
   fun v _ => v = .pointer (some ⟨fb, 12, none⟩),
   fun v _ => v = .pointer (some ⟨fb, 13, none⟩),
   fun v _ => v = .slice a0 n0 k0,
   fun v _ => v = .pointer (some ⟨fb, 0, none⟩),
   fun v _ => v = .pointer (some ⟨fb, 0, none⟩),
   fun v _ => v = .pointer (some ⟨fb, 0, none⟩),
   fun v _ => v = .pointer (some ⟨fb, 1, none⟩),
   fun v _ => v = .agg #[.float .f64 pri, .int .i64 val],
   fun v w => ∃ g c, v = .slice (some ⟨g, 0, none⟩) (n0 + 1) c ∧ Flat 2 w g c (n0 + 1) (flatI LL) ∧ lo ≤ g]
theorem ins8R_kept (b fb lo : Nat) (sh : Int) (a0 : Option Addr) (n0 k0 pri : Nat) (val : Int) (LL : List It) : Reg.AllKept Reg.Keeps (ins8R b fb lo sh a0 n0 k0 pri val LL) :=
  ⟨(fun _ _ _ _ h => h), (fun _ _ _ _ h => h), (fun _ _ _ _ h => h), (fun _ _ _ _ h => h), (fun _ _ _ _ h => h), (fun _ _ _ _ h => h), (fun _ _ _ _ h => h), (fun _ _ _ _ h => h), (fun _ _ _ _ h => h), (fun _ _ _ _ h => h), (fun _ _ _ _ h => h), (fun _ _ _ _ h => h), (fun _ _ _ _ h => h), (fun _ _ _ _ h => h), (fun _ _ _ _ h => h), (fun v w w' hk h => by obtain ⟨g, c, h1, h2, h3⟩ := h; exact ⟨g, c, h1, h2.but (S := fun _ => False) (But.of_below hk) id, h3⟩), trivial⟩

set_option maxRecDepth 20000 in
set_option maxHeartbeats 4000000 in
theorem ins_write (sh : Int) (w : World) (b fb : Nat) (O P : Nat → Prop) (M : Mem) (F : Fr) (K : List KI) (h : MemAt w b O M) (hf : FrAt w fb P F) (hd : ∀ k, O k → ¬ P k) (hs : 1 ≤ sh ∧ sh ≤ 16) (hp : F.pc ≠ 0) (hK : F.c0.L = kit K) (hKl : K.length ≤ 999) (hpri : F.pri < 18446744073709551616) (hck : M.clock < 4611686018427387904) :
    Calls Tryz.prog 165 #[.agg #[.int .i64 sh], .pointer (some ⟨b, 0, none⟩), .pointer (some ⟨fb, 0, none⟩)] w (StepEnd b fb O P (insS sh M F) w) := by
  obtain ⟨W1, hW1, hb0, hsz0, hR0, hA0⟩ := two_new w [.int .i64 sh] Ans.zero.l 147 46 0
  have hW2 : (w.alloc (.cells #[.int .i64 sh] 147)).alloc (.cells #[.bool false, .float .f64 0, .int .i64 0, .int .i64 0] 46) = W1 := hW1
  clear hW1
  have hF1 := hf.below hb0
  have hM1 := h.below hb0
  have hO : ¬ O fb := fun e => hd _ e hf.ob
  have hfl := hf.lt _ hf.ob
  have hsf := run_store_flt (P := Tryz.prog)
  have hp0 : (F.pc == 0) = false := by simpa using hp
  obtain ⟨a0, k0, a1, k1, hB, hS0, hS1, hi0, hi1⟩ := hF1.box
  obtain ⟨c5, z5⟩ := hB.get 5 _ rfl
  -- the frame, begun anew
  have hF2 : FrAt (W1.setCell ⟨fb, 5, none⟩ (.int .i64 0)) fb P { F with pc := 0 } := hF1.turn 5 (.int .i64 0) (fun _ _ _ _ => rfl) rfl rfl
  have hbs : But (fun j => j = fb) W1 (W1.setCell ⟨fb, 5, none⟩ (.int .i64 0)) := (But.refl (fun j => j = fb) W1).set1 fb 5 rfl _
  have hM2 := hM1.but hbs (fun k hk e => hO (e ▸ hk))
  have hA2 := hA0.but hbs (by omega)
  have hR2 := hR0.but hbs (by omega)
  have hB2 := hB.set 5 (.int .i64 0)
  have hS02 := hS0.but hbs (fun j hj => (hi0 j hj).2)
  have hz2 : (W1.setCell ⟨fb, 5, none⟩ (.int .i64 0)).heap.size = w.heap.size + 2 := by rw [World.size_setCell]; exact hsz0
  have hbut2 : But (fun k => O k ∨ P k) w (W1.setCell ⟨fb, 5, none⟩ (.int .i64 0)) := (But.of_below hb0).then hbs (fun j _ e => .inr (e ▸ hf.ob))
  have HW := hidq (insS_write (sh := sh) (M := M) hp)
  have HL := hidq (insS_late (sh := sh) (M := M) hp)
  have hLL : mWith F.c0.L F.pri F.val = kit (srt (mkKI F.pri F.val :: K)) := by unfold mWith; rw [hK, kis_kit]
  have hLn : (kit (srt (mkKI F.pri F.val :: K))).length = K.length + 1 := by rw [kit_length, (srt_perm _).length_eq]; rfl
  have hKn : F.c0.L.length = K.length := by rw [hK, kit_length]
  rw [hLL] at HW HL
  generalize insS sh M F = r at *
  clear hbs
  go_enter Tryz.func165, Tryz.ntmps165
  go_wp2_with fail
  obtain ⟨sb, hsb⟩ : ∃ sb, w.heap.size = sb := ⟨_, rfl⟩
  obtain ⟨W2, hWW⟩ : ∃ W2, W1.setCell ⟨fb, 5, none⟩ (.int .i64 0) = W2 := ⟨_, rfl⟩
  rw [hWW] at hF2 hM2 hA2 hR2 hB2 hS02 hz2 hbut2 ⊢
  obtain ⟨lo, hlo⟩ : ∃ lo, W2.heap.size = lo := ⟨_, rfl⟩
  obtain ⟨n0, hn0⟩ : ∃ n0, F.c0.L.length = n0 := ⟨_, rfl⟩
  obtain ⟨pri, hpr⟩ : ∃ pri, F.pri = pri := ⟨_, rfl⟩
  obtain ⟨val, hva⟩ : ∃ val, F.val = val := ⟨_, rfl⟩
  obtain ⟨LL, hLLe⟩ : ∃ LL, kit (srt (mkKI F.pri F.val :: K)) = LL := ⟨_, rfl⟩
  have hWi := hidq (fun W (hW : Below W2.heap.size W2 W) => (show Calls Tryz.prog 168 #[.slice a0 n0 k0, .agg #[.float .f64 pri, .int .i64 val]] W _ from mwith_any a0 k0 n0 K pri val W (by omega) (by omega) (by
    have := hS02.below hW
    rw [hn0, hK] at this
    exact this) (by rw [← hpr]; exact hpri)))
  rw [← hpr, ← hva] at hWi
  rw [hLLe, hpr, hva] at hWi
  have FC := hidq (fun W (hW : Below W2.heap.size W2 W) => (show (W.cell? ⟨sb, 0, none⟩ = some (.int .i64 sh) ∧ W.cell? ⟨fb, 13, none⟩ = some (.slice a0 n0 k0)) ∧ W.cell? ⟨fb, 1, none⟩ = some (.float .f64 pri) ∧ W.cell? ⟨fb, 2, none⟩ = some (.int .i64 val) from by
    have q := hB2.below hW
    have e1 := (q.get 13 _ rfl).1
    have e2 := (q.get 1 _ rfl).1
    have e3 := (q.get 2 _ rfl).1
    have e4 := ((hR2.below hW).get 0 _ rfl).1
    rw [hsb] at e4
    rw [hn0] at e1
    rw [hpr] at e2
    rw [hva] at e3
    exact ⟨⟨e4, e1⟩, e2, e3⟩))
  have HALL := hidq (And.intro hF2 (And.intro hM2 (And.intro hA2 (And.intro hbut2 (And.intro h (And.intro hf (And.intro hd hLn)))))))
  have HE := hidq (And.intro hLLe (And.intro hn0 (And.intro hpr (And.intro hva (And.intro hKn hKl)))))
  have HS := hidq (And.intro hsz0 hz2)
  rw [hsb]
  clear hF1 hM1 hF2 hM2 hA2 hR2 hB2 hS02 hbut2 hb0 hR0 hA0 hB hS0 hS1 hi0 hi1 h hf hd hK hLL hLn hKn hLLe hn0 hpr hva c5 z5 hW2 hWW hpri hKl hsz0 hz2
  have hrefl : ∀ w : World, Reg.Keeps w w := Reg.Keeps.refl
  refine Reg.wp_region_props_tail 16 (Reg.ofList (ins8R b fb lo sh a0 n0 k0 pri val LL)) Reg.Keeps (fun _ w => Reg.Keeps W2 w) (by kernel_rfl) (by kernel_rfl) (by kernel_rfl) (Reg.AllKept.at _ (ins8R_kept b fb lo sh a0 n0 k0 pri val LL)) hrefl (Reg.Keeps.drewN (Reg.Keeps.refl _) 1) ⟨?_, ?_, ?_, ?_, ?_, ?_, ?_, ?_, ?_, ?_, ?_, ?_, ?_, ?_, ?_, ?_, trivial⟩ ?_
  · refine Reg.StepAt.plain (i := 0) rfl ?_
    intro L ev w hI hk hp hA
    have e3 : ev (.tmp 3) = .pointer (some ⟨sb, 0, none⟩) := hA.oldNone 3 (by kernel_rfl)
    have hcc := hA.const
    clear hA hp
    obtain ⟨⟨f1, f2⟩, f3, f4⟩ := FC.out w hI
    refine Reg.out_value (v := .agg #[.int .i64 sh]) ?_ ⟨rfl, hrefl _, hI⟩
    go_simp
  · refine Reg.StepAt.plain (i := 1) rfl ?_
    intro L ev w hI hk hp hA
    have e1 : ev (.tmp 1) = .pointer (some ⟨b, 0, none⟩) := hA.oldNone 1 (by kernel_rfl)
    have hcc := hA.const
    clear hA hp
    refine Reg.out_value (v := .pointer (some ⟨b, 0, none⟩)) ?_ ⟨rfl, hrefl _, hI⟩
    go_simp
  · refine Reg.StepAt.plain (i := 2) rfl ?_
    intro L ev w hI hk hp hA
    have e2 : ev (.tmp 2) = .pointer (some ⟨fb, 0, none⟩) := hA.oldNone 2 (by kernel_rfl)
    have hcc := hA.const
    clear hA hp
    refine Reg.out_value (v := .pointer (some ⟨fb, 0, none⟩)) ?_ ⟨rfl, hrefl _, hI⟩
    go_simp
  · refine Reg.StepAt.plain (i := 3) rfl ?_
    intro L ev w hI hk hp hA
    have e2 : ev (.tmp 2) = .pointer (some ⟨fb, 0, none⟩) := hA.oldNone 2 (by kernel_rfl)
    have hcc := hA.const
    clear hA hp
    refine Reg.out_value (v := .pointer (some ⟨fb, 0, none⟩)) ?_ ⟨rfl, hrefl _, hI⟩
    go_simp
  · refine Reg.StepAt.plain (i := 4) rfl ?_
    intro L ev w hI hk hp hA
    have e37 : ev (.tmp 37) = .pointer (some ⟨fb, 0, none⟩) := hA.val 3 _ 37 rfl (hp ⟨3, .data⟩ (by simp) rfl) rfl
    have hcc := hA.const
    clear hA hp
    refine Reg.out_value (v := .pointer (some ⟨fb, 0, none⟩)) ?_ ⟨rfl, hrefl _, hI⟩
    go_simp
  · refine Reg.StepAt.plain (i := 5) rfl ?_
    intro L ev w hI hk hp hA
    have e38 : ev (.tmp 38) = .pointer (some ⟨fb, 0, none⟩) := hA.val 4 _ 38 rfl (hp ⟨4, .data⟩ (by simp) rfl) rfl
    have hcc := hA.const
    clear hA hp
    refine Reg.out_value (v := .pointer (some ⟨fb, 11, none⟩)) ?_ ⟨rfl, hrefl _, hI⟩
    go_simp
  · refine Reg.StepAt.plain (i := 6) rfl ?_
    intro L ev w hI hk hp hA
    have e39 : ev (.tmp 39) = .pointer (some ⟨fb, 11, none⟩) := hA.val 5 _ 39 rfl (hp ⟨5, .data⟩ (by simp) rfl) rfl
    have hcc := hA.const
    clear hA hp
    refine Reg.out_value (v := .pointer (some ⟨fb, 11, none⟩)) ?_ ⟨rfl, hrefl _, hI⟩
    go_simp
  · refine Reg.StepAt.plain (i := 7) rfl ?_
    intro L ev w hI hk hp hA
    have e40 : ev (.tmp 40) = .pointer (some ⟨fb, 11, none⟩) := hA.val 6 _ 40 rfl (hp ⟨6, .data⟩ (by simp) rfl) rfl
    have hcc := hA.const
    clear hA hp
    refine Reg.out_value (v := .pointer (some ⟨fb, 12, none⟩)) ?_ ⟨rfl, hrefl _, hI⟩
    go_simp
  · refine Reg.StepAt.plain (i := 8) rfl ?_
    intro L ev w hI hk hp hA
    have e41 : ev (.tmp 41) = .pointer (some ⟨fb, 12, none⟩) := hA.val 7 _ 41 rfl (hp ⟨7, .data⟩ (by simp) rfl) rfl
    have hcc := hA.const
    clear hA hp
    refine Reg.out_value (v := .pointer (some ⟨fb, 13, none⟩)) ?_ ⟨rfl, hrefl _, hI⟩
    go_simp
  · refine Reg.StepAt.plain (i := 9) rfl ?_
    intro L ev w hI hk hp hA
    have e42 : ev (.tmp 42) = .pointer (some ⟨fb, 13, none⟩) := hA.val 8 _ 42 rfl (hp ⟨8, .data⟩ (by simp) rfl) rfl
    have hcc := hA.const
    clear hA hp
    obtain ⟨⟨f1, f2⟩, f3, f4⟩ := FC.out w hI
    refine Reg.out_value (v := .slice a0 n0 k0) ?_ ⟨rfl, hrefl _, hI⟩
    go_simp
  · refine Reg.StepAt.plain (i := 10) rfl ?_
    intro L ev w hI hk hp hA
    have e2 : ev (.tmp 2) = .pointer (some ⟨fb, 0, none⟩) := hA.oldNone 2 (by kernel_rfl)
    have hcc := hA.const
    clear hA hp
    refine Reg.out_value (v := .pointer (some ⟨fb, 0, none⟩)) ?_ ⟨rfl, hrefl _, hI⟩
    go_simp
  · refine Reg.StepAt.plain (i := 11) rfl ?_
    intro L ev w hI hk hp hA
    have e44 : ev (.tmp 44) = .pointer (some ⟨fb, 0, none⟩) := hA.val 10 _ 44 rfl (hp ⟨10, .data⟩ (by simp) rfl) rfl
    have hcc := hA.const
    clear hA hp
    refine Reg.out_value (v := .pointer (some ⟨fb, 0, none⟩)) ?_ ⟨rfl, hrefl _, hI⟩
    go_simp
  · refine Reg.StepAt.plain (i := 12) rfl ?_
    intro L ev w hI hk hp hA
    have e45 : ev (.tmp 45) = .pointer (some ⟨fb, 0, none⟩) := hA.val 11 _ 45 rfl (hp ⟨11, .data⟩ (by simp) rfl) rfl
    have hcc := hA.const
    clear hA hp
    refine Reg.out_value (v := .pointer (some ⟨fb, 0, none⟩)) ?_ ⟨rfl, hrefl _, hI⟩
    go_simp
  · refine Reg.StepAt.plain (i := 13) rfl ?_
    intro L ev w hI hk hp hA
    have e46 : ev (.tmp 46) = .pointer (some ⟨fb, 0, none⟩) := hA.val 12 _ 46 rfl (hp ⟨12, .data⟩ (by simp) rfl) rfl
    have hcc := hA.const
    clear hA hp
    refine Reg.out_value (v := .pointer (some ⟨fb, 1, none⟩)) ?_ ⟨rfl, hrefl _, hI⟩
    go_simp
  · refine Reg.StepAt.plain (i := 14) rfl ?_
    intro L ev w hI hk hp hA
    have e47 : ev (.tmp 47) = .pointer (some ⟨fb, 1, none⟩) := hA.val 13 _ 47 rfl (hp ⟨13, .data⟩ (by simp) rfl) rfl
    have hcc := hA.const
    clear hA hp
    obtain ⟨⟨f1, f2⟩, f3, f4⟩ := FC.out w hI
    refine Reg.out_value (v := .agg #[.float .f64 pri, .int .i64 val]) ?_ ⟨rfl, hrefl _, hI⟩
    go_simp
  · refine Reg.StepAt.plain (i := 15) rfl ?_
    intro L ev w hI hk hp hA
    have e43 : ev (.tmp 43) = .slice a0 n0 k0 := hA.val 9 _ 43 rfl (hp ⟨9, .data⟩ (by simp) rfl) rfl
    have e48 : ev (.tmp 48) = .agg #[.float .f64 pri, .int .i64 val] := hA.val 14 _ 48 rfl (hp ⟨14, .data⟩ (by simp) rfl) rfl
    have hcc := hA.const
    have hcf := hA.func
    clear hA hp
    refine Reg.out_call (f := 168) (args := #[.slice a0 n0 k0, .agg #[.float .f64 pri, .int .i64 val]]) (w0 := w) ?_ ?_
    · go_simp
    refine (hWi.out w hI).mono ?_
    rintro e w' ⟨g', c', rfl, hg', hf', hb'⟩
    exact ⟨_, rfl, ⟨g', c', rfl, hf', by have h1 : W2.heap.size ≤ w.heap.size := hI.size; omega⟩, hb', Reg.Keeps.trans hI hb'⟩
  intro act wz hI hF
  have g34 : act.eval (.tmp 34) = .agg #[.int .i64 sh] := hF.val 0 _ 34 rfl (by kernel_rfl) rfl
  have g35 : act.eval (.tmp 35) = .pointer (some ⟨b, 0, none⟩) := hF.val 1 _ 35 rfl (by kernel_rfl) rfl
  have g36 : act.eval (.tmp 36) = .pointer (some ⟨fb, 0, none⟩) := hF.val 2 _ 36 rfl (by kernel_rfl) rfl
  have g37 : act.eval (.tmp 37) = .pointer (some ⟨fb, 0, none⟩) := hF.val 3 _ 37 rfl (by kernel_rfl) rfl
  have g38 : act.eval (.tmp 38) = .pointer (some ⟨fb, 0, none⟩) := hF.val 4 _ 38 rfl (by kernel_rfl) rfl
  have g39 : act.eval (.tmp 39) = .pointer (some ⟨fb, 11, none⟩) := hF.val 5 _ 39 rfl (by kernel_rfl) rfl
  have g40 : act.eval (.tmp 40) = .pointer (some ⟨fb, 11, none⟩) := hF.val 6 _ 40 rfl (by kernel_rfl) rfl
  have g41 : act.eval (.tmp 41) = .pointer (some ⟨fb, 12, none⟩) := hF.val 7 _ 41 rfl (by kernel_rfl) rfl
  have g42 : act.eval (.tmp 42) = .pointer (some ⟨fb, 13, none⟩) := hF.val 8 _ 42 rfl (by kernel_rfl) rfl
  have g43 : act.eval (.tmp 43) = .slice a0 n0 k0 := hF.val 9 _ 43 rfl (by kernel_rfl) rfl
  have g44 : act.eval (.tmp 44) = .pointer (some ⟨fb, 0, none⟩) := hF.val 10 _ 44 rfl (by kernel_rfl) rfl
  have g45 : act.eval (.tmp 45) = .pointer (some ⟨fb, 0, none⟩) := hF.val 11 _ 45 rfl (by kernel_rfl) rfl
  have g46 : act.eval (.tmp 46) = .pointer (some ⟨fb, 0, none⟩) := hF.val 12 _ 46 rfl (by kernel_rfl) rfl
  have g47 : act.eval (.tmp 47) = .pointer (some ⟨fb, 1, none⟩) := hF.val 13 _ 47 rfl (by kernel_rfl) rfl
  have g48 : act.eval (.tmp 48) = .agg #[.float .f64 pri, .int .i64 val] := hF.val 14 _ 48 rfl (by kernel_rfl) rfl
  have g49 : (fun v w => ∃ g c, v = .slice (some ⟨g, 0, none⟩) (n0 + 1) c ∧ Flat 2 w g c (n0 + 1) (flatI LL) ∧ lo ≤ g) (act.eval (.tmp 49)) wz := hF.val 15 _ 49 rfl (by kernel_rfl) rfl
  have hact := hF.actHead [34, 35, 36, 37, 38, 39, 40, 41, 42, 43, 44, 45, 46, 47, 48, 49] (by kernel_rfl)
  clear hF
  simp only [List.foldl_cons, List.foldl_nil] at hact
  rw [g34, g35, g36, g37, g38, g39, g40, g41, g42, g43, g44, g45, g46, g47, g48] at hact
  clear g34 g35 g36 g37 g38 g39 g40 g41 g42 g43 g44 g45 g46 g47 g48
  generalize act.eval (.tmp 49) = u49 at hact g49
  simp only [List.setIfInBounds_toArray, List.set_cons_succ, List.set_cons_zero] at hact
  subst hact
  simp only [List.drop_succ_cons, List.drop_zero]
  obtain ⟨g4, c4, rfl, hF4, hg4⟩ := g49
  obtain ⟨hF2, hM2, hA2, hbut2, h, hf, hd, hLn⟩ := HALL.out
  obtain ⟨hLLe, hn0, hpr, hva, hKn, hKl⟩ := HE.out
  obtain ⟨hsz0, hz2⟩ := HS.out
  have hIz : Below W2.heap.size W2 wz := hI
  have hFz := hF2.below hIz
  have hMz := hM2.below hIz
  have hAz := hA2.below hIz
  have hbz : But (fun k => O k ∨ P k) w wz := hbut2.trans (But.of_below hIz |>.mono (fun _ _ e => e))
  have hlen : LL.length = n0 + 1 := by rw [← hLLe, hLn]; omega
  have HWr := hidq (write8_0 sh wz b fb O P M { F with pc := 0 } hMz hFz hs (some ⟨g4, 0, none⟩) c4 (n0 + 1) LL hlen (.inr ⟨g4, rfl, hF4⟩) (fun j hj e => by
    obtain ⟨y, hy, rfl⟩ := hj; cases hy
    have : g4 < w.heap.size := h.lt _ e; omega) (by omega) hck)
  have hsz := hIz.size
  have FIN := hidq (fun w4 (A : Ans) (dn : Bool) (hE : ∃ O', MemAt w4 b O' (M.write (into F.d0 sh) F.c0.ver 0 LL) ∧ Grown O wz w4 O' ∧ But O wz w4) => (by
    obtain ⟨O4, hM4, hG4, hB4⟩ := hE
    have hs4 := hB4.size
    have hOP : ∀ k, O4 k → ¬ P k := fun k hk e => by
      rcases hG4 k hk with q | q
      · exact hd _ q e
      · have := hf.lt _ e; omega
    exact stepEnd_fr (w := w) (P := P) (F' := { F with pc := 0 }) (A := A) (d := dn) [] hM4 (fun k hk => (hG4 k hk).imp id (fun q => ⟨by omega, q.2⟩)) (hFz.but hB4 (fun k hk e => hd _ e hk)) (Grown.refl P w w4) hOP
      (hbz.trans (hB4.mono (fun _ _ e => .inl e))) hf.ob (hAz.but hB4 (fun e => by have := h.lt _ e; omega)) (Nat.le_succ _) (fun e => by
        rcases hG4 _ e with q | q
        · have := h.lt _ q; omega
        · omega) (fun e => by have := hf.lt _ e; omega) (fun _ _ _ _ => rfl) rfl rfl))
  have GA := hidq (fun w4 (hB4 : But O wz w4) => And.intro (hAz.but hB4 (fun e => by have := h.lt _ e; omega)) (hFz.but hB4 (fun k hk e => hd _ e hk)))
  rw [hsb] at FIN GA
  have HFIN := FIN
  have hfa : ¬ fb = sb + 1 := by omega
  clear hF2 hM2 hA2 hbut2 h hf hd hLn hFz hMz hAz hbz hF4 hIz hlen HALL FC hWi hI HE FIN
  have hC := fun w => icanon_any pri val w
  rw [hLLe] at HW HL
  have HPV := hidq (And.intro hpr hva)
  cases hcan : M.can (into F.d0 sh) F.c0.ver
  · have hr := hidq (HL.out hcan)
    rw [hcan] at HWr
    clear HW HL hcan hC hLLe hn0 hpr hva hKn hKl
    go_wp2_with fail
    refine HWr.out.mono ?_
    rintro e w4 ⟨rfl, hE⟩
    have F1 := hidq (HFIN.out w4 Ans.zero false hE)
    obtain ⟨O4, _, _, hB4⟩ := hE
    obtain ⟨hA4, _⟩ := GA.out w4 hB4
    obtain ⟨g0, x0⟩ := hA4.get 0 _ rfl
    obtain ⟨g1, x1⟩ := hA4.get 1 _ rfl
    obtain ⟨g2, x2⟩ := hA4.get 2 _ rfl
    obtain ⟨g3, x3⟩ := hA4.get 3 _ rfl
    clear hA4 hB4 HFIN GA HWr
    go_wp2
    exact ret_ans Tryz.results165 F1.out.1 rfl rfl rfl (by rw [hr.out]; exact F1.out.2)
  · have hr := hidq (HW.out hcan)
    rw [hcan] at HWr
    clear HW HL hcan hLLe hn0 hpr hva hKn hKl
    go_wp2_with fail
    refine HWr.out.mono ?_
    rintro e w4 ⟨rfl, hE⟩
    have HE4 := hidq hE
    obtain ⟨O4, _, _, hB4⟩ := hE
    obtain ⟨hA4, hF4⟩ := GA.out w4 hB4
    obtain ⟨_, _, _, _, hBx, _⟩ := hF4.box
    have q1 := (hBx.get 1 _ rfl).1
    have q2 := (hBx.get 2 _ rfl).1
    rw [HPV.out.1] at q1
    rw [HPV.out.2] at q2
    have HB4 := hidq hB4
    clear hA4 hB4 HWr hF4 hBx
    go_wp2_with fail
    refine (hC _).mono ?_
    rintro e w5 ⟨rfl, hb5⟩
    have F1 := hidq (HFIN.out w5 ⟨true, cbits pri, val, 0⟩ true (by
      obtain ⟨O4, h1, h2, h3⟩ := HE4.out
      exact ⟨O4, h1.below hb5, fun k hk => (h2 k hk).imp id (fun q => ⟨q.1, Nat.lt_of_lt_of_le q.2 hb5.size⟩), h3.trans (But.of_below hb5 |>.mono (fun _ _ e => e))⟩))
    have hA5 := (GA.out w5 (HB4.out.trans (But.of_below hb5 |>.mono (fun _ _ e => e)))).1
    obtain ⟨g0, x0⟩ := hA5.get 0 _ rfl
    obtain ⟨g1, x1⟩ := hA5.get 1 _ rfl
    obtain ⟨g2, x2⟩ := hA5.get 2 _ rfl
    obtain ⟨g3, x3⟩ := hA5.get 3 _ rfl
    clear hA5 HFIN GA hb5 HE4 HB4 q1 q2 hC
    go_wp2
    exact ret_ans Tryz.results165 F1.out.1 rfl rfl rfl (by rw [hr.out, HPV.out.1, HPV.out.2]; have q := F1.out.2; rw [HPV.out.1, HPV.out.2] at q; exact q)
end Go.Proofs.YtbcmilfajeanbaaGreat

namespace Go.Proofs.YtbcmilfajeanbaaGreat
open Go.RowKit Go.Sort

/-- A Delete's step. -/
def remS (sh : Int) (M : Mem) (F : Fr) : Mem × Fr × Ans × Bool :=
  if F.pc = 0 then (M, { F with c0 := M.look (into F.d0 sh), pc := 1 }, Ans.zero, false)
  else if F.pc = 1 then
    if (mAhead (kis F.c0.L) (kis (M.look (into F.d1 sh)).L)).2 = true then (M, { F with c1 := M.look (into F.d1 sh), pc := 2 }, Ans.zero, false)
    else (M, { F with c1 := M.look (into F.d1 sh) }, Ans.zero, true)
  else if (mAhead (kis F.c0.L) (kis F.c1.L)).1 = 0 then
    (M.write (into F.d0 sh) F.c0.ver 0 (kit (kis F.c0.L).tail), { F with pc := 0 }, (if M.can (into F.d0 sh) F.c0.ver = true then ⟨true, (hd1 (kis F.c0.L)).b, (hd1 (kis F.c0.L)).v, 0⟩ else Ans.zero), M.can (into F.d0 sh) F.c0.ver)
  else
    (M.write (into F.d1 sh) F.c1.ver 0 (kit (kis F.c1.L).tail), { F with pc := 0 }, (if M.can (into F.d1 sh) F.c1.ver = true then ⟨true, (hd1 (kis F.c1.L)).b, (hd1 (kis F.c1.L)).v, 0⟩ else Ans.zero), M.can (into F.d1 sh) F.c1.ver)

theorem remS_0 {sh : Int} {M : Mem} {F : Fr} (hp : F.pc = 0) : remS sh M F = (M, { F with c0 := M.look (into F.d0 sh), pc := 1 }, Ans.zero, false) := by unfold remS; rw [if_pos hp]
theorem remS_1t {sh : Int} {M : Mem} {F : Fr} (hp : F.pc = 1) (h : (mAhead (kis F.c0.L) (kis (M.look (into F.d1 sh)).L)).2 = true) : remS sh M F = (M, { F with c1 := M.look (into F.d1 sh), pc := 2 }, Ans.zero, false) := by
  unfold remS; rw [if_neg (by omega), if_pos hp, if_pos h]
theorem remS_1f {sh : Int} {M : Mem} {F : Fr} (hp : F.pc = 1) (h : (mAhead (kis F.c0.L) (kis (M.look (into F.d1 sh)).L)).2 = false) : remS sh M F = (M, { F with c1 := M.look (into F.d1 sh) }, Ans.zero, true) := by
  unfold remS; rw [if_neg (by omega), if_pos hp, if_neg (by rw [h]; decide)]
theorem remS_2a {sh : Int} {M : Mem} {F : Fr} {x : KI} {K : List KI} (h0 : F.pc ≠ 0) (h1 : F.pc ≠ 1) (h : (mAhead (kis F.c0.L) (kis F.c1.L)).1 = 0) (hK : kis F.c0.L = x :: K) : remS sh M F =
    (M.write (into F.d0 sh) F.c0.ver 0 (kit K), { F with pc := 0 }, (if M.can (into F.d0 sh) F.c0.ver = true then ⟨true, x.b, x.v, 0⟩ else Ans.zero), M.can (into F.d0 sh) F.c0.ver) := by
  unfold remS; rw [if_neg h0, if_neg h1, if_pos h, hK]; rfl
theorem remS_2b {sh : Int} {M : Mem} {F : Fr} {x : KI} {K : List KI} (h0 : F.pc ≠ 0) (h1 : F.pc ≠ 1) (h : (mAhead (kis F.c0.L) (kis F.c1.L)).1 = 1) (hK : kis F.c1.L = x :: K) : remS sh M F =
    (M.write (into F.d1 sh) F.c1.ver 0 (kit K), { F with pc := 0 }, (if M.can (into F.d1 sh) F.c1.ver = true then ⟨true, x.b, x.v, 0⟩ else Ans.zero), M.can (into F.d1 sh) F.c1.ver) := by
  unfold remS; rw [if_neg h0, if_neg h1, if_neg (by omega), hK]; rfl

set_option maxRecDepth 20000 in
set_option maxHeartbeats 4000000 in
theorem rem_0 (sh : Int) (w : World) (b fb : Nat) (O P : Nat → Prop) (M : Mem) (F : Fr) (h : MemAt w b O M) (hf : FrAt w fb P F) (hd : ∀ k, O k → ¬ P k) (hs : 1 ≤ sh ∧ sh ≤ 16) (hp : F.pc = 0) :
    Calls Tryz.prog 166 #[.agg #[.int .i64 sh], .pointer (some ⟨b, 0, none⟩), .pointer (some ⟨fb, 0, none⟩)] w (StepEnd b fb O P (remS sh M F) w) := by
  obtain ⟨a0, k0, a1, k1, hB, _⟩ := hf.box
  have hfl := hB.lt
  have hsf := run_store_flt (P := Tryz.prog)
  obtain ⟨W1, hW1, hb0, hsz0, hR0, hA0⟩ := two_new w [.int .i64 sh] Ans.zero.l 147 46 0
  have hW2 : (w.alloc (.cells #[.int .i64 sh] 147)).alloc (.cells #[.bool false, .float .f64 0, .int .i64 0, .int .i64 0] 46) = W1 := hW1
  clear hW1
  have r0 := (hR0.get 0 _ rfl).1
  have c5 := ((hB.below hb0).get 5 _ rfl).1
  rw [hp] at c5
  have HR := hidq (read8_0 sh W1 b fb O P M F (h.below hb0) (hf.below hb0) hd hs)
  have HH := hidq (And.intro h (And.intro hf hd))
  have HA := hidq hA0
  have HB0 := hidq hb0
  have HL := hidq (remS_0 (sh := sh) (M := M) hp)
  generalize remS sh M F = r at *
  clear h hf hd hB hb0 hR0 hA0 hp
  go_enter Tryz.func166, Tryz.ntmps166
  go_wp2_with fail
  refine HR.out.mono ?_
  rintro e w2 ⟨rfl, P2, hM2, hF2, hD2, hG2, hb2⟩
  obtain ⟨HM, HF, HD⟩ := HH.out
  have hs2 := hb2.size
  have hbut : But (fun k => O k ∨ P k) w w2 := (But.of_below HB0.out).trans (hb2.mono (fun _ _ e => .inr e))
  have hG : Grown P w w2 P2 := fun j hj => (hG2 j hj).imp id (fun e => ⟨by have := HB0.out.size; omega, e.2⟩)
  have hPa : ¬ P2 (w.heap.size + 1) := fun e => by
    rcases hG2 _ e with q | q
    · have := HF.lt _ q; omega
    · omega
  have hA2 := HA.out.but hb2 (fun e => by have := HF.lt _ e; omega)
  have F1 := hidq (stepEnd_fr (F' := { F with c0 := M.look (into F.d0 sh), pc := 1 }) (A := Ans.zero) (d := false) [(5, .int .i64 1)] hM2 (Grown.refl O w w2) hF2 hG hD2 hbut HF.ob hA2 (Nat.le_succ _) (fun e => by have := HM.lt _ e; omega) hPa (fun _ _ _ _ => rfl) rfl rfl)
  obtain ⟨a0, k0, a1, k1, hB2, _⟩ := hF2.box
  obtain ⟨d5, y5⟩ := hB2.get 5 _ rfl
  obtain ⟨g0, x0⟩ := hA2.get 0 _ rfl
  obtain ⟨g1, x1⟩ := hA2.get 1 _ rfl
  obtain ⟨g2, x2⟩ := hA2.get 2 _ rfl
  obtain ⟨g3, x3⟩ := hA2.get 3 _ rfl
  have hfa : ¬ fb = w.heap.size + 1 := by omega
  clear hM2 hF2 hD2 hG2 hb2 hbut hG hPa hA2 HR HH HA HM HF HD HB0 hB2 c5 r0
  go_wp2
  exact ret_ans Tryz.results166 F1.out.1 rfl rfl rfl (by rw [HL.out]; exact F1.out.2)

set_option maxRecDepth 20000 in
set_option maxHeartbeats 4000000 in
theorem rem_1 (sh : Int) (w : World) (b fb : Nat) (O P : Nat → Prop) (M : Mem) (F : Fr) (K0 K1 : List KI) (h : MemAt w b O M) (hf : FrAt w fb P F) (hd : ∀ k, O k → ¬ P k) (hs : 1 ≤ sh ∧ sh ≤ 16) (hp : F.pc = 1)
    (hK0 : F.c0.L = kit K0) (hK1 : (M.look (into F.d1 sh)).L = kit K1) (ho0 : InOrder K0) (ho1 : InOrder K1) (hl0 : K0.length ≤ 999) (hl1 : K1.length ≤ 999) :
    Calls Tryz.prog 166 #[.agg #[.int .i64 sh], .pointer (some ⟨b, 0, none⟩), .pointer (some ⟨fb, 0, none⟩)] w (StepEnd b fb O P (remS sh M F) w) := by
  obtain ⟨a0, k0, a1, k1, hB, _⟩ := hf.box
  have hfl := hB.lt
  have hsf := run_store_flt (P := Tryz.prog)
  obtain ⟨W1, hW1, hb0, hsz0, hR0, hA0⟩ := two_new w [.int .i64 sh] Ans.zero.l 147 46 0
  have hW2 : (w.alloc (.cells #[.int .i64 sh] 147)).alloc (.cells #[.bool false, .float .f64 0, .int .i64 0, .int .i64 0] 46) = W1 := hW1
  clear hW1
  have r0 := (hR0.get 0 _ rfl).1
  have c5 := ((hB.below hb0).get 5 _ rfl).1
  rw [hp] at c5
  have HR := hidq (read8_1 sh W1 b fb O P M F (h.below hb0) (hf.below hb0) hd hs)
  have HH := hidq (And.intro h (And.intro hf hd))
  have HA := hidq hA0
  have HB0 := hidq hb0
  have HL := hidq (And.intro (remS_1t (sh := sh) (M := M) hp) (remS_1f (sh := sh) (M := M) hp))
  rw [hK0, hK1, kis_kit, kis_kit] at HL
  have HK := hidq (And.intro hK0 (And.intro hK1 (And.intro ho0 (And.intro ho1 (And.intro hl0 hl1)))))
  generalize remS sh M F = r at *
  clear h hf hd hB hb0 hR0 hA0 hp hK0 hK1 ho0 ho1 hl0 hl1
  go_enter Tryz.func166, Tryz.ntmps166
  go_wp2_with fail
  refine HR.out.mono ?_
  rintro e w2 ⟨rfl, P2, hM2, hF2, hD2, hG2, hb2⟩
  obtain ⟨HM, HF, HD⟩ := HH.out
  obtain ⟨hK0, hK1, ho0, ho1, hl0, hl1⟩ := HK.out
  have hs2 := hb2.size
  have hbut : But (fun k => O k ∨ P k) w w2 := (But.of_below HB0.out).trans (hb2.mono (fun _ _ e => .inr e))
  have hG : Grown P w w2 P2 := fun j hj => (hG2 j hj).imp id (fun e => ⟨by have := HB0.out.size; omega, e.2⟩)
  have hPa : ¬ P2 (w.heap.size + 1) := fun e => by
    rcases hG2 _ e with q | q
    · have := HF.lt _ q; omega
    · omega
  have hA2 := HA.out.but hb2 (fun e => by have := HF.lt _ e; omega)
  obtain ⟨a2, k2, a3, k3, hB2, hS2, hS3, _, _⟩ := hF2.box
  have hAh := ahead_any F.c0.ver F.c0.n (M.look (into F.d1 sh)).ver (M.look (into F.d1 sh)).n a2 a3 k2 k3 F.c0.L.length (M.look (into F.d1 sh)).L.length K0 K1 w2 (by rw [← hK0]; exact hS2) (by rw [← hK1]; exact hS3)
    (by rw [hK0, kit_length]) (by rw [hK1, kit_length]) (by rw [hK0, kit_length]; omega) (by rw [hK1, kit_length]; omega) ho0 ho1
  have HAh := hidq hAh
  have FIN := hidq (fun w3 (hb3 : Below w2.heap.size w2 w3) (F' : Fr) (A : Ans) (dn : Bool) (s : List (Nat × Value)) hl hc0 hc1 => stepEnd_fr (w := w) (w2 := w3) (F' := F') (A := A) (d := dn) s (hM2.below hb3) (Grown.refl O w w3) (hF2.below hb3) (fun j hj => (hG j hj).imp id (fun q => ⟨q.1, Nat.lt_of_lt_of_le q.2 hb3.size⟩)) hD2 (hbut.trans (But.of_below hb3 |>.mono (fun _ _ e => e))) HF.ob (hA2.below hb3) (Nat.le_succ _) (fun e => by have := HM.lt _ e; omega) hPa hl hc0 hc1)
  have GA := hidq (fun w3 (hb3 : Below w2.heap.size w2 w3) => And.intro (hA2.below hb3) (hB2.below hb3))
  have e11 := (hB2.get 11 _ rfl).1
  have e12 := (hB2.get 12 _ rfl).1
  have e13 := (hB2.get 13 _ rfl).1
  have e14 := (hB2.get 14 _ rfl).1
  have e15 := (hB2.get 15 _ rfl).1
  have e16 := (hB2.get 16 _ rfl).1
  have hfa : ¬ fb = w.heap.size + 1 := by omega
  clear hM2 hF2 hD2 hG2 hb2 hbut hG hPa hA2 HR HH HA HM HF HD HB0 hB2 c5 r0 hS2 hS3 hAh HK hK0 hK1 ho0 ho1 hl0 hl1
  generalize hma : mAhead K0 K1 = ma at *
  obtain ⟨mk, ms⟩ := ma
  go_wp2_with fail
  refine HAh.out.mono ?_
  rintro e w3 ⟨rfl, hb3⟩
  obtain ⟨hA3, hB3⟩ := GA.out w3 hb3
  obtain ⟨d5, y5⟩ := hB3.get 5 _ rfl
  obtain ⟨g0, x0⟩ := hA3.get 0 _ rfl
  obtain ⟨g1, x1⟩ := hA3.get 1 _ rfl
  obtain ⟨g2, x2⟩ := hA3.get 2 _ rfl
  obtain ⟨g3, x3⟩ := hA3.get 3 _ rfl
  have FIN3 := hidq (FIN.out w3 hb3)
  clear FIN GA hb3 hA3 hB3 HAh e11 e12 e13 e14 e15 e16
  dsimp only at *
  cases ms
  · have hr := hidq (HL.out.2 rfl)
    have F1 := hidq (FIN3.out { F with c1 := M.look (into F.d1 sh) } Ans.zero true [] (fun _ _ _ _ => rfl) rfl rfl)
    clear FIN3 HL
    go_wp2
    exact ret_ans Tryz.results166 F1.out.1 rfl rfl rfl (by rw [hr.out]; exact F1.out.2)
  · have hr := hidq (HL.out.1 rfl)
    have F1 := hidq (FIN3.out { F with c1 := M.look (into F.d1 sh), pc := 2 } Ans.zero false [(5, .int .i64 2)] (fun _ _ _ _ => rfl) rfl rfl)
    clear FIN3 HL
    go_wp2
    exact ret_ans Tryz.results166 F1.out.1 rfl rfl rfl (by rw [hr.out]; exact F1.out.2)
end Go.Proofs.YtbcmilfajeanbaaGreat

namespace Go.Proofs.YtbcmilfajeanbaaGreat
open Go.RowKit Go.Sort

set_option maxRecDepth 20000 in
set_option maxHeartbeats 4000000 in
theorem rem_2a (sh : Int) (w : World) (b fb : Nat) (O P : Nat → Prop) (M : Mem) (F : Fr) (x : KI) (K K1 : List KI) (h : MemAt w b O M) (hf : FrAt w fb P F) (hd : ∀ k, O k → ¬ P k) (hs : 1 ≤ sh ∧ sh ≤ 16) (hp0 : F.pc ≠ 0) (hp1 : F.pc ≠ 1)
    (hK : F.c0.L = kit (x :: K)) (hK1 : F.c1.L = kit K1) (ho : InOrder (x :: K)) (ho1 : InOrder K1) (hl : (x :: K).length ≤ 999) (hl1 : K1.length ≤ 999) (hma : mAhead (x :: K) K1 = (0, true)) (hck : M.clock < 4611686018427387904) :
    Calls Tryz.prog 166 #[.agg #[.int .i64 sh], .pointer (some ⟨b, 0, none⟩), .pointer (some ⟨fb, 0, none⟩)] w (StepEnd b fb O P (remS sh M F) w) := by
  have hsf := run_store_flt (P := Tryz.prog)
  obtain ⟨W1, hW1, hb0, hsz0, hR0, hA0⟩ := two_new w [.int .i64 sh] Ans.zero.l 147 46 0
  have hW2 : (w.alloc (.cells #[.int .i64 sh] 147)).alloc (.cells #[.bool false, .float .f64 0, .int .i64 0, .int .i64 0] 46) = W1 := hW1
  clear hW1
  have hF1 := hf.below hb0
  have hM1 := h.below hb0
  have hO : ¬ O fb := fun e => hd _ e hf.ob
  have hfl := hf.lt _ hf.ob
  have hq0 : (F.pc == 0) = false := by simpa using hp0
  have hq1 : (F.pc == 1) = false := by simpa using hp1
  obtain ⟨_, _, _, _, hB, _⟩ := hF1.box
  obtain ⟨c5, z5⟩ := hB.get 5 _ rfl
  have hF2 : FrAt (W1.setCell ⟨fb, 5, none⟩ (.int .i64 0)) fb P { F with pc := 0 } := hF1.turn 5 (.int .i64 0) (fun _ _ _ _ => rfl) rfl rfl
  have hbs : But (fun j => j = fb) W1 (W1.setCell ⟨fb, 5, none⟩ (.int .i64 0)) := (But.refl (fun j => j = fb) W1).set1 fb 5 rfl _
  have hM2 := hM1.but hbs (fun k hk e => hO (e ▸ hk))
  have hA2 := hA0.but hbs (by omega)
  have hR2 := hR0.but hbs (by omega)
  have hz2 : (W1.setCell ⟨fb, 5, none⟩ (.int .i64 0)).heap.size = w.heap.size + 2 := by rw [World.size_setCell]; exact hsz0
  have hbut2 : But (fun k => O k ∨ P k) w (W1.setCell ⟨fb, 5, none⟩ (.int .i64 0)) := (But.of_below hb0).then hbs (fun j _ e => .inr (e ▸ hf.ob))
  have HW := hidq (remS_2a (sh := sh) (M := M) (F := F) (x := x) (K := K) hp0 hp1 (by rw [hK, hK1, kis_kit, kis_kit, hma]) (by rw [hK, kis_kit]))
  generalize remS sh M F = r at *
  clear hbs
  obtain ⟨W2, hWW⟩ : ∃ W2, W1.setCell ⟨fb, 5, none⟩ (.int .i64 0) = W2 := ⟨_, rfl⟩
  rw [hWW] at hF2 hM2 hA2 hR2 hz2 hbut2
  obtain ⟨a2, k2, a3, k3, hB2, hS2, hS3, hi2, hi3⟩ := hF2.box
  have hkl : F.c0.L.length = K.length + 1 := by rw [hK, kit_length]; rfl
  have hll : (x :: K).length = K.length + 1 := rfl
  have hAh := ahead_any F.c0.ver F.c0.n F.c1.ver F.c1.n a2 a3 k2 k3 F.c0.L.length F.c1.L.length (x :: K) K1 W2 (by rw [← hK]; exact hS2) (by rw [← hK1]; exact hS3)
    (by rw [hK, kit_length]) (by rw [hK1, kit_length]) (by rw [hK, kit_length]; omega) (by rw [hK1, kit_length]; omega) ho ho1
  rw [hma] at hAh
  have HAh := hidq hAh
  have HRe := hidq (fun W (hW : Below W2.heap.size W2 W) => (show Calls Tryz.prog 170 #[.slice a2 F.c0.L.length k2] W _ from by
    rw [hkl]
    exact mrest_any a2 k2 K.length x K W rfl (by omega) ho (by have := hS2.below hW; dsimp only at this; rw [hkl, hK] at this; exact this)))
  have HWr := hidq (fun W (hW : Below W2.heap.size W2 W) g c (hF : Flat 2 W g c K.length (flatI (kit K))) (hg : w.heap.size ≤ g) => write8_0 sh W b fb O P M { F with pc := 0 } (hM2.below hW) (hF2.below hW) hs (some ⟨g, 0, none⟩) c K.length (kit K) (kit_length K) (.inr ⟨g, rfl, hF⟩) (fun j hj e => by
    obtain ⟨y, hy, rfl⟩ := hj; cases hy
    have : g < w.heap.size := h.lt _ e; omega) (by omega) hck)
  have FIN := hidq (fun W (hW : Below W2.heap.size W2 W) w4 (A : Ans) (dn : Bool) (hE : ∃ O', MemAt w4 b O' (M.write (into F.d0 sh) F.c0.ver 0 (kit K)) ∧ Grown O W w4 O' ∧ But O W w4) => (by
    obtain ⟨O4, hM4, hG4, hB4⟩ := hE
    have hs4 := hB4.size
    have hsW := hW.size
    have hOP : ∀ k, O4 k → ¬ P k := fun k hk e => by
      rcases hG4 k hk with q | q
      · exact hd _ q e
      · have := hf.lt _ e; omega
    have hbW : But (fun k => O k ∨ P k) w W := hbut2.trans (But.of_below hW |>.mono (fun _ _ e => e))
    exact stepEnd_fr (w := w) (P := P) (F' := { F with pc := 0 }) (A := A) (d := dn) [] hM4 (fun k hk => (hG4 k hk).imp id (fun q => ⟨by omega, q.2⟩)) ((hF2.below hW).but hB4 (fun k hk e => hd _ e hk)) (Grown.refl P w w4) hOP
      (hbW.trans (hB4.mono (fun _ _ e => .inl e))) hf.ob ((hA2.below hW).but hB4 (fun e => by have := h.lt _ e; omega)) (Nat.le_succ _) (fun e => by
        rcases hG4 _ e with q | q
        · have := h.lt _ q; omega
        · omega) (fun e => by have := hf.lt _ e; omega) (fun _ _ _ _ => rfl) rfl rfl))
  have GA := hidq (fun W (hW : Below W2.heap.size W2 W) w4 (hB4 : But O W w4) => (hA2.below hW).but hB4 (fun e => by have := h.lt _ e; omega))
  have GB := hidq (fun W (hW : Below W2.heap.size W2 W) => And.intro ((hB2.below hW).get 13 _ rfl).1 ((hR2.below hW).get 0 _ rfl).1)
  have HOl := hidq h.lt
  have e11 := (hB2.get 11 _ rfl).1
  have e12 := (hB2.get 12 _ rfl).1
  have e13 := (hB2.get 13 _ rfl).1
  have e14 := (hB2.get 14 _ rfl).1
  have e15 := (hB2.get 15 _ rfl).1
  have e16 := (hB2.get 16 _ rfl).1
  have HS := hidq (And.intro hsz0 hz2)
  clear hF1 hM1 hF2 hM2 hA2 hR2 hB2 hS2 hS3 hi2 hi3 hbut2 hb0 hR0 hA0 hB h hf hd hK hK1 ho ho1 hl hl1 hma hkl hll hAh hsz0 hz2 hp0 hp1 hck
  go_enter Tryz.func166, Tryz.ntmps166
  go_wp2_with fail
  refine HAh.out.mono ?_
  rintro e w3 ⟨rfl, hb3⟩
  obtain ⟨e3, r3⟩ := GB.out w3 hb3
  have HB3 := hidq hb3
  clear hb3 HAh e11 e12 e13 e14 e15 e16
  go_wp2_with fail
  refine (HRe.out w3 HB3.out).mono ?_
  rintro e w4 ⟨g4, c4, rfl, hg4, hF4, hb4⟩
  have hz2 := HS.out.2
  have hs3 := HB3.out.size
  obtain ⟨xb, hxb⟩ : ∃ xb, w4.heap.size = xb := ⟨_, rfl⟩
  obtain ⟨W5, hW5⟩ : ∃ W5, w4.alloc (.cells #[.float .f64 x.b, .int .i64 x.v] 40) = W5 := ⟨_, rfl⟩
  have h45 : Below w4.heap.size w4 W5 := by rw [← hW5]; exact (Below.refl _ _).alloc (Nat.le_refl _) _
  have hX : BoxAt W5 xb [.float .f64 x.b, .int .i64 x.v] := by
    have := BoxAt.new w4 [.float .f64 x.b, .int .i64 x.v] 40
    rw [hxb] at this
    rw [← hW5]; exact this
  have hb24 : Below W2.heap.size W2 w4 := HB3.out.trans (hb4.mono HB3.out.size)
  have hb25 : Below W2.heap.size W2 W5 := hb24.trans (h45.mono hb24.size)
  have HB5 := hidq hb25
  have HF5 := hidq (HWr.out W5 hb25 g4 c4 (hF4.but (S := fun _ => False) (But.of_below h45) id) (by omega))
  obtain ⟨_, r5⟩ := GB.out W5 hb25
  have hxo : ¬ O xb := fun e => by have := HOl.out _ e; have := hb4.size; omega
  have HX := hidq (fun w6 (hB6 : But O W5 w6) => hX.but hB6 hxo)
  clear hb4 hF4 h45 hX hb24 hb25 HB3 HRe HWr GB e3 r3 HS hs3 hz2 hg4
  have hW5b : w4.alloc (.cells #[.float .f64 x.b, .int .i64 x.v] 40) = W5 := hW5
  clear hW5
  cases hcan : M.can (into F.d0 sh) F.c0.ver
  · have hr : Hid (r = (M.write (into F.d0 sh) F.c0.ver 0 (kit K), { F with pc := 0 }, Ans.zero, false)) := hidq (by rw [HW.out, hcan]; rfl)
    rw [hcan] at HF5
    clear HW hcan
    go_wp2_with fail
    refine HF5.out.mono ?_
    rintro e w6 ⟨rfl, hE⟩
    have F1 := hidq (FIN.out W5 HB5.out w6 Ans.zero false hE)
    obtain ⟨O6, _, _, hB6⟩ := hE
    have hA6 := GA.out W5 HB5.out w6 hB6
    obtain ⟨g0, x0⟩ := hA6.get 0 _ rfl
    obtain ⟨g1, x1⟩ := hA6.get 1 _ rfl
    obtain ⟨g2, x2⟩ := hA6.get 2 _ rfl
    obtain ⟨g3, x3⟩ := hA6.get 3 _ rfl
    clear hA6 hB6 FIN GA HF5 HX HB5 r5
    go_wp2
    exact ret_ans Tryz.results166 F1.out.1 rfl rfl rfl (by rw [hr.out]; exact F1.out.2)
  · have hr : Hid (r = (M.write (into F.d0 sh) F.c0.ver 0 (kit K), { F with pc := 0 }, ⟨true, x.b, x.v, 0⟩, true)) := hidq (by rw [HW.out, hcan]; rfl)
    rw [hcan] at HF5
    clear HW hcan
    go_wp2_with fail
    refine HF5.out.mono ?_
    rintro e w6 ⟨rfl, hE⟩
    have F1 := hidq (FIN.out W5 HB5.out w6 ⟨true, x.b, x.v, 0⟩ true hE)
    obtain ⟨O6, _, _, hB6⟩ := hE
    have hA6 := GA.out W5 HB5.out w6 hB6
    obtain ⟨g0, x0⟩ := hA6.get 0 _ rfl
    obtain ⟨g1, x1⟩ := hA6.get 1 _ rfl
    obtain ⟨g2, x2⟩ := hA6.get 2 _ rfl
    obtain ⟨g3, x3⟩ := hA6.get 3 _ rfl
    have hX6 := HX.out w6 hB6
    have t0 := (hX6.get 0 _ rfl).1
    have t1 := (hX6.get 1 _ rfl).1
    clear hA6 hB6 FIN GA HF5 HX HB5 r5 hX6
    go_wp2
    exact ret_ans Tryz.results166 F1.out.1 rfl rfl rfl (by rw [hr.out]; exact F1.out.2)

set_option maxRecDepth 20000 in
set_option maxHeartbeats 4000000 in
theorem rem_2b (sh : Int) (w : World) (b fb : Nat) (O P : Nat → Prop) (M : Mem) (F : Fr) (x : KI) (K K0 : List KI) (h : MemAt w b O M) (hf : FrAt w fb P F) (hd : ∀ k, O k → ¬ P k) (hs : 1 ≤ sh ∧ sh ≤ 16) (hp0 : F.pc ≠ 0) (hp1 : F.pc ≠ 1)
    (hK : F.c1.L = kit (x :: K)) (hK0 : F.c0.L = kit K0) (ho : InOrder (x :: K)) (ho0 : InOrder K0) (hl : (x :: K).length ≤ 999) (hl0 : K0.length ≤ 999) (hma : mAhead K0 (x :: K) = (1, true)) (hck : M.clock < 4611686018427387904) :
    Calls Tryz.prog 166 #[.agg #[.int .i64 sh], .pointer (some ⟨b, 0, none⟩), .pointer (some ⟨fb, 0, none⟩)] w (StepEnd b fb O P (remS sh M F) w) := by
  have hsf := run_store_flt (P := Tryz.prog)
  obtain ⟨W1, hW1, hb0, hsz0, hR0, hA0⟩ := two_new w [.int .i64 sh] Ans.zero.l 147 46 0
  have hW2 : (w.alloc (.cells #[.int .i64 sh] 147)).alloc (.cells #[.bool false, .float .f64 0, .int .i64 0, .int .i64 0] 46) = W1 := hW1
  clear hW1
  have hF1 := hf.below hb0
  have hM1 := h.below hb0
  have hO : ¬ O fb := fun e => hd _ e hf.ob
  have hfl := hf.lt _ hf.ob
  have hq0 : (F.pc == 0) = false := by simpa using hp0
  have hq1 : (F.pc == 1) = false := by simpa using hp1
  obtain ⟨_, _, _, _, hB, _⟩ := hF1.box
  obtain ⟨c5, z5⟩ := hB.get 5 _ rfl
  have hF2 : FrAt (W1.setCell ⟨fb, 5, none⟩ (.int .i64 0)) fb P { F with pc := 0 } := hF1.turn 5 (.int .i64 0) (fun _ _ _ _ => rfl) rfl rfl
  have hbs : But (fun j => j = fb) W1 (W1.setCell ⟨fb, 5, none⟩ (.int .i64 0)) := (But.refl (fun j => j = fb) W1).set1 fb 5 rfl _
  have hM2 := hM1.but hbs (fun k hk e => hO (e ▸ hk))
  have hA2 := hA0.but hbs (by omega)
  have hR2 := hR0.but hbs (by omega)
  have hz2 : (W1.setCell ⟨fb, 5, none⟩ (.int .i64 0)).heap.size = w.heap.size + 2 := by rw [World.size_setCell]; exact hsz0
  have hbut2 : But (fun k => O k ∨ P k) w (W1.setCell ⟨fb, 5, none⟩ (.int .i64 0)) := (But.of_below hb0).then hbs (fun j _ e => .inr (e ▸ hf.ob))
  have HW := hidq (remS_2b (sh := sh) (M := M) (F := F) (x := x) (K := K) hp0 hp1 (by rw [hK0, hK, kis_kit, kis_kit, hma]) (by rw [hK, kis_kit]))
  generalize remS sh M F = r at *
  clear hbs
  obtain ⟨W2, hWW⟩ : ∃ W2, W1.setCell ⟨fb, 5, none⟩ (.int .i64 0) = W2 := ⟨_, rfl⟩
  rw [hWW] at hF2 hM2 hA2 hR2 hz2 hbut2
  obtain ⟨a2, k2, a3, k3, hB2, hS2, hS3, hi2, hi3⟩ := hF2.box
  have hkl : F.c1.L.length = K.length + 1 := by rw [hK, kit_length]; rfl
  have hll : (x :: K).length = K.length + 1 := rfl
  have hAh := ahead_any F.c0.ver F.c0.n F.c1.ver F.c1.n a2 a3 k2 k3 F.c0.L.length F.c1.L.length K0 (x :: K) W2 (by rw [← hK0]; exact hS2) (by rw [← hK]; exact hS3)
    (by rw [hK0, kit_length]) (by rw [hK, kit_length]) (by rw [hK0, kit_length]; omega) (by rw [hK, kit_length]; omega) ho0 ho
  rw [hma] at hAh
  have HAh := hidq hAh
  have HRe := hidq (fun W (hW : Below W2.heap.size W2 W) => (show Calls Tryz.prog 170 #[.slice a3 F.c1.L.length k3] W _ from by
    rw [hkl]
    exact mrest_any a3 k3 K.length x K W rfl (by omega) ho (by have := hS3.below hW; dsimp only at this; rw [hkl, hK] at this; exact this)))
  have HWr := hidq (fun W (hW : Below W2.heap.size W2 W) g c (hF : Flat 2 W g c K.length (flatI (kit K))) (hg : w.heap.size ≤ g) => write8_1 sh W b fb O P M { F with pc := 0 } (hM2.below hW) (hF2.below hW) hs (some ⟨g, 0, none⟩) c K.length (kit K) (kit_length K) (.inr ⟨g, rfl, hF⟩) (fun j hj e => by
    obtain ⟨y, hy, rfl⟩ := hj; cases hy
    have : g < w.heap.size := h.lt _ e; omega) (by omega) hck)
  have FIN := hidq (fun W (hW : Below W2.heap.size W2 W) w4 (A : Ans) (dn : Bool) (hE : ∃ O', MemAt w4 b O' (M.write (into F.d1 sh) F.c1.ver 0 (kit K)) ∧ Grown O W w4 O' ∧ But O W w4) => (by
    obtain ⟨O4, hM4, hG4, hB4⟩ := hE
    have hs4 := hB4.size
    have hsW := hW.size
    have hOP : ∀ k, O4 k → ¬ P k := fun k hk e => by
      rcases hG4 k hk with q | q
      · exact hd _ q e
      · have := hf.lt _ e; omega
    have hbW : But (fun k => O k ∨ P k) w W := hbut2.trans (But.of_below hW |>.mono (fun _ _ e => e))
    exact stepEnd_fr (w := w) (P := P) (F' := { F with pc := 0 }) (A := A) (d := dn) [] hM4 (fun k hk => (hG4 k hk).imp id (fun q => ⟨by omega, q.2⟩)) ((hF2.below hW).but hB4 (fun k hk e => hd _ e hk)) (Grown.refl P w w4) hOP
      (hbW.trans (hB4.mono (fun _ _ e => .inl e))) hf.ob ((hA2.below hW).but hB4 (fun e => by have := h.lt _ e; omega)) (Nat.le_succ _) (fun e => by
        rcases hG4 _ e with q | q
        · have := h.lt _ q; omega
        · omega) (fun e => by have := hf.lt _ e; omega) (fun _ _ _ _ => rfl) rfl rfl))
  have GA := hidq (fun W (hW : Below W2.heap.size W2 W) w4 (hB4 : But O W w4) => (hA2.below hW).but hB4 (fun e => by have := h.lt _ e; omega))
  have GB := hidq (fun W (hW : Below W2.heap.size W2 W) => And.intro ((hB2.below hW).get 16 _ rfl).1 ((hR2.below hW).get 0 _ rfl).1)
  have HOl := hidq h.lt
  have e11 := (hB2.get 11 _ rfl).1
  have e12 := (hB2.get 12 _ rfl).1
  have e13 := (hB2.get 13 _ rfl).1
  have e14 := (hB2.get 14 _ rfl).1
  have e15 := (hB2.get 15 _ rfl).1
  have e16 := (hB2.get 16 _ rfl).1
  have HS := hidq (And.intro hsz0 hz2)
  clear hF1 hM1 hF2 hM2 hA2 hR2 hB2 hS2 hS3 hi2 hi3 hbut2 hb0 hR0 hA0 hB h hf hd hK hK0 ho ho0 hl hl0 hma hkl hll hAh hsz0 hz2 hp0 hp1 hck
  go_enter Tryz.func166, Tryz.ntmps166
  go_wp2_with fail
  refine HAh.out.mono ?_
  rintro e w3 ⟨rfl, hb3⟩
  obtain ⟨e3, r3⟩ := GB.out w3 hb3
  have HB3 := hidq hb3
  clear hb3 HAh e11 e12 e13 e14 e15 e16
  go_wp2_with fail
  refine (HRe.out w3 HB3.out).mono ?_
  rintro e w4 ⟨g4, c4, rfl, hg4, hF4, hb4⟩
  have hz2 := HS.out.2
  have hs3 := HB3.out.size
  obtain ⟨xb, hxb⟩ : ∃ xb, w4.heap.size = xb := ⟨_, rfl⟩
  obtain ⟨W5, hW5⟩ : ∃ W5, w4.alloc (.cells #[.float .f64 x.b, .int .i64 x.v] 40) = W5 := ⟨_, rfl⟩
  have h45 : Below w4.heap.size w4 W5 := by rw [← hW5]; exact (Below.refl _ _).alloc (Nat.le_refl _) _
  have hX : BoxAt W5 xb [.float .f64 x.b, .int .i64 x.v] := by
    have := BoxAt.new w4 [.float .f64 x.b, .int .i64 x.v] 40
    rw [hxb] at this
    rw [← hW5]; exact this
  have hb24 : Below W2.heap.size W2 w4 := HB3.out.trans (hb4.mono HB3.out.size)
  have hb25 : Below W2.heap.size W2 W5 := hb24.trans (h45.mono hb24.size)
  have HB5 := hidq hb25
  have HF5 := hidq (HWr.out W5 hb25 g4 c4 (hF4.but (S := fun _ => False) (But.of_below h45) id) (by omega))
  obtain ⟨_, r5⟩ := GB.out W5 hb25
  have hxo : ¬ O xb := fun e => by have := HOl.out _ e; have := hb4.size; omega
  have HX := hidq (fun w6 (hB6 : But O W5 w6) => hX.but hB6 hxo)
  clear hb4 hF4 h45 hX hb24 hb25 HB3 HRe HWr GB e3 r3 HS hs3 hz2 hg4
  have hW5b : w4.alloc (.cells #[.float .f64 x.b, .int .i64 x.v] 40) = W5 := hW5
  clear hW5
  cases hcan : M.can (into F.d1 sh) F.c1.ver
  · have hr : Hid (r = (M.write (into F.d1 sh) F.c1.ver 0 (kit K), { F with pc := 0 }, Ans.zero, false)) := hidq (by rw [HW.out, hcan]; rfl)
    rw [hcan] at HF5
    clear HW hcan
    go_wp2_with fail
    refine HF5.out.mono ?_
    rintro e w6 ⟨rfl, hE⟩
    have F1 := hidq (FIN.out W5 HB5.out w6 Ans.zero false hE)
    obtain ⟨O6, _, _, hB6⟩ := hE
    have hA6 := GA.out W5 HB5.out w6 hB6
    obtain ⟨g0, x0⟩ := hA6.get 0 _ rfl
    obtain ⟨g1, x1⟩ := hA6.get 1 _ rfl
    obtain ⟨g2, x2⟩ := hA6.get 2 _ rfl
    obtain ⟨g3, x3⟩ := hA6.get 3 _ rfl
    clear hA6 hB6 FIN GA HF5 HX HB5 r5
    go_wp2
    exact ret_ans Tryz.results166 F1.out.1 rfl rfl rfl (by rw [hr.out]; exact F1.out.2)
  · have hr : Hid (r = (M.write (into F.d1 sh) F.c1.ver 0 (kit K), { F with pc := 0 }, ⟨true, x.b, x.v, 0⟩, true)) := hidq (by rw [HW.out, hcan]; rfl)
    rw [hcan] at HF5
    clear HW hcan
    go_wp2_with fail
    refine HF5.out.mono ?_
    rintro e w6 ⟨rfl, hE⟩
    have F1 := hidq (FIN.out W5 HB5.out w6 ⟨true, x.b, x.v, 0⟩ true hE)
    obtain ⟨O6, _, _, hB6⟩ := hE
    have hA6 := GA.out W5 HB5.out w6 hB6
    obtain ⟨g0, x0⟩ := hA6.get 0 _ rfl
    obtain ⟨g1, x1⟩ := hA6.get 1 _ rfl
    obtain ⟨g2, x2⟩ := hA6.get 2 _ rfl
    obtain ⟨g3, x3⟩ := hA6.get 3 _ rfl
    have hX6 := HX.out w6 hB6
    have t0 := (hX6.get 0 _ rfl).1
    have t1 := (hX6.get 1 _ rfl).1
    clear hA6 hB6 FIN GA HF5 HX HB5 r5 hX6
    go_wp2
    exact ret_ans Tryz.results166 F1.out.1 rfl rfl rfl (by rw [hr.out]; exact F1.out.2)
end Go.Proofs.YtbcmilfajeanbaaGreat

namespace Go.Proofs.YtbcmilfajeanbaaGreat
open Go.RowKit Go.Sort

/-- Items in order, canonical, no more than so many. -/
def KOk (n : Nat) (L : List It) : Prop := ∃ K, L = kit K ∧ InOrder K ∧ K.length ≤ n
theorem KOk.nil (n : Nat) : KOk n [] := ⟨[], rfl, List.Pairwise.nil, Nat.zero_le _⟩
def MOk (M : Mem) : Prop := ∀ i, KOk 62 (M.cell i).L
theorem MOk.look {M : Mem} (h : MOk M) (i : Int) : KOk 62 (M.look i).L := by
  unfold Mem.look
  split
  · exact KOk.nil _
  · exact h _
theorem MOk.write {M : Mem} (h : MOk M) (i v x : Int) (L : List It) (hL : KOk 62 L) : MOk (M.write i v x L) := by
  rcases write_as (M := M) (i := i) (v := v) (x := x) (L := L) with ⟨_, e, _⟩ | ⟨_, e⟩
  · rw [e]
    intro j
    show KOk 62 (if j = i.toNat then (⟨((M.clock + 1 : Nat) : Int), x, L⟩ : CV) else M.cell j).L
    split
    · exact hL
    · exact h j
  · rw [e]; exact h
theorem MOk.empty : MOk Mem.empty := fun _ => KOk.nil _
/-- What is asked of a frame. -/
def FOk (F : Fr) : Prop := KOk 62 F.c0.L ∧ KOk 62 F.c1.L ∧
  ((F.kind = 1 ∧ F.pri < 18446744073709551616 ∧ (F.pc ≠ 0 → F.c0.L.length ≤ 61)) ∨ (F.kind = 2 ∧ (F.pc ≠ 0 → F.pc ≠ 1 → (mAhead (kis F.c0.L) (kis F.c1.L)).2 = true)))
def mGood (M : Mem) (F : Fr) : Prop := MOk M ∧ FOk F

/-- A Multi's step. -/
def mStep (sh : Int) : StepFn := fun M F => if F.kind = 1 then insS sh M F else remS sh M F

theorem mWith_ok {L : List It} {p : Nat} {v : Int} (h : KOk 62 L) (hl : L.length ≤ 61) : KOk 62 (mWith L p v) := by
  obtain ⟨K, rfl, ho, hk⟩ := h
  rw [kit_length] at hl
  refine ⟨_, rfl, srt_order _, ?_⟩
  rw [(srt_perm _).length_eq, kis_kit]
  show K.length + 1 ≤ 62
  omega
theorem tail_ok {L : List It} (h : KOk 62 L) : KOk 62 (kit (kis L).tail) := by
  obtain ⟨K, rfl, ho, hk⟩ := h
  rw [kis_kit]
  exact ⟨_, rfl, ho.sublist (List.tail_sublist K), by rw [List.length_tail]; omega⟩
theorem mAhead_0 {K0 K1 : List KI} (h2 : (mAhead K0 K1).2 = true) (h1 : (mAhead K0 K1).1 = 0) : mAhead K0 K1 = (0, true) := Prod.ext h1 h2
theorem mAhead_cases {K0 K1 : List KI} (h : (mAhead K0 K1).2 = true) : (mAhead K0 K1 = (0, true) ∧ ∃ x K, K0 = x :: K) ∨ (mAhead K0 K1 = (1, true) ∧ ∃ x K, K1 = x :: K) := by
  rcases K0 with _ | ⟨x, K⟩
  · rcases K1 with _ | ⟨y, L⟩
    · simp [mAhead] at h
    · exact .inr ⟨rfl, y, L, rfl⟩
  · rcases K1 with _ | ⟨y, L⟩
    · exact .inl ⟨rfl, x, K, rfl⟩
    · by_cases e : y.lt x = true
      · exact .inr ⟨by simp [mAhead, e], y, L, rfl⟩
      · exact .inl ⟨by simp [mAhead, e], x, K, rfl⟩

theorem mStep_mem (sh : Int) {M : Mem} {F : Fr} (h : mGood M F) : MOk (mStep sh M F).1 := by
  obtain ⟨hM, h0, h1, hk⟩ := h
  unfold mStep
  rcases hk with ⟨hk, hp, hl⟩ | ⟨hk, ha⟩
  · rw [if_pos hk]
    unfold insS
    by_cases hpc : F.pc = 0
    · rw [if_pos hpc]; split <;> exact hM
    · rw [if_neg hpc]; exact hM.write _ _ _ _ (mWith_ok h0 (hl hpc))
  · rw [if_neg (by omega)]
    unfold remS
    split
    · exact hM
    · split
      · split <;> exact hM
      · split
        · exact hM.write _ _ _ _ (tail_ok h0)
        · exact hM.write _ _ _ _ (tail_ok h1)
theorem mStep_frame (sh : Int) {M : Mem} {F : Fr} (h : mGood M F) (hd : (mStep sh M F).2.2.2 = false) : FOk (mStep sh M F).2.1 := by
  obtain ⟨hM, h0, h1, hk⟩ := h
  unfold mStep at hd ⊢
  rcases hk with ⟨hk, hp, hl⟩ | ⟨hk, ha⟩
  · rw [if_pos hk] at hd ⊢
    by_cases hpc : F.pc = 0
    · by_cases hfull : 62 ≤ (M.look (into F.d0 sh)).L.length
      · rw [insS_full hpc hfull] at hd; cases hd
      · rw [insS_read hpc hfull]
        exact ⟨hM.look _, h1, .inl ⟨hk, hp, fun _ => by show (M.look (into F.d0 sh)).L.length ≤ 61; omega⟩⟩
    · unfold insS
      rw [if_neg hpc]
      exact ⟨h0, h1, .inl ⟨hk, hp, fun e => absurd rfl e⟩⟩
  · rw [if_neg (by omega)] at hd ⊢
    by_cases hp0 : F.pc = 0
    · rw [remS_0 hp0]
      exact ⟨hM.look _, h1, .inr ⟨hk, fun _ e => absurd rfl e⟩⟩
    · by_cases hp1 : F.pc = 1
      · cases hm : (mAhead (kis F.c0.L) (kis (M.look (into F.d1 sh)).L)).2
        · rw [remS_1f hp1 hm] at hd; cases hd
        · rw [remS_1t hp1 hm]
          exact ⟨h0, hM.look _, .inr ⟨hk, fun _ _ => hm⟩⟩
      · unfold remS
        rw [if_neg hp0, if_neg hp1]
        split
        · exact ⟨h0, h1, .inr ⟨hk, fun e => absurd rfl e⟩⟩
        · exact ⟨h0, h1, .inr ⟨hk, fun e => absurd rfl e⟩⟩
theorem write_clock8 (M : Mem) (i v x : Int) (L : List It) : (M.write i v x L).clock ≤ M.clock + 1 := by
  rcases write_as (M := M) (i := i) (v := v) (x := x) (L := L) with ⟨_, h, _⟩ | ⟨_, h⟩
  · rw [h]; exact Nat.le_refl _
  · rw [h]; exact Nat.le_succ _
theorem mFine (sh : Int) : Fine mGood (mStep sh) := by
  constructor
  · exact fun M F h hd => ⟨mStep_mem sh h, mStep_frame sh h hd⟩
  · intro M F
    unfold mStep
    split
    · unfold insS
      split
      · split <;> exact Nat.le_succ _
      · exact write_clock8 _ _ _ _ _
    · unfold remS
      split
      · exact Nat.le_succ _
      · split
        · split <;> exact Nat.le_succ _
        · split <;> exact write_clock8 _ _ _ _ _

theorem ins_any (sh : Int) (w : World) (b fb : Nat) (O P : Nat → Prop) (M : Mem) (F : Fr) (h : MemAt w b O M) (hf : FrAt w fb P F) (hd : ∀ k, O k → ¬ P k) (hs : 1 ≤ sh ∧ sh ≤ 16) (hg : mGood M F) (hk : F.kind = 1) (hck : M.clock < 4611686018427387904) :
    Calls Tryz.prog 165 #[.agg #[.int .i64 sh], .pointer (some ⟨b, 0, none⟩), .pointer (some ⟨fb, 0, none⟩)] w (StepEnd b fb O P (mStep sh M F) w) := by
  have e : mStep sh M F = insS sh M F := if_pos hk
  rw [e]
  obtain ⟨hM, h0, h1, hq⟩ := hg
  by_cases hp : F.pc = 0
  · exact ins_read sh w b fb O P M F h hf hd hs hp
  · obtain ⟨K, hK, ho, hl⟩ := h0
    rcases hq with ⟨_, hpr, _⟩ | ⟨hk2, _⟩
    · exact ins_write sh w b fb O P M F K h hf hd hs hp hK (by omega) hpr hck
    · omega
theorem rem_any (sh : Int) (w : World) (b fb : Nat) (O P : Nat → Prop) (M : Mem) (F : Fr) (h : MemAt w b O M) (hf : FrAt w fb P F) (hd : ∀ k, O k → ¬ P k) (hs : 1 ≤ sh ∧ sh ≤ 16) (hg : mGood M F) (hk : F.kind = 2) (hck : M.clock < 4611686018427387904) :
    Calls Tryz.prog 166 #[.agg #[.int .i64 sh], .pointer (some ⟨b, 0, none⟩), .pointer (some ⟨fb, 0, none⟩)] w (StepEnd b fb O P (mStep sh M F) w) := by
  have e : mStep sh M F = remS sh M F := if_neg (by omega)
  rw [e]
  obtain ⟨hM, h0, h1, hq⟩ := hg
  by_cases hp0 : F.pc = 0
  · exact rem_0 sh w b fb O P M F h hf hd hs hp0
  · obtain ⟨K0, hK0, ho0, hl0⟩ := h0
    by_cases hp1 : F.pc = 1
    · obtain ⟨K1, hK1, ho1, hl1⟩ := hM.look (into F.d1 sh)
      exact rem_1 sh w b fb O P M F K0 K1 h hf hd hs hp1 hK0 hK1 ho0 ho1 (by omega) (by omega)
    · obtain ⟨K1, hK1, ho1, hl1⟩ := h1
      rcases hq with ⟨hk1, _⟩ | ⟨_, ha⟩
      · omega
      · have hm := ha hp0 hp1
        rw [hK0, hK1, kis_kit, kis_kit] at hm
        rcases mAhead_cases hm with ⟨hma, x, K, rfl⟩ | ⟨hma, x, K, rfl⟩
        · exact rem_2a sh w b fb O P M F x K K1 h hf hd hs hp0 hp1 hK0 hK1 ho0 ho1 (by omega) (by omega) hma hck
        · exact rem_2b sh w b fb O P M F x K K0 h hf hd hs hp0 hp1 hK1 hK0 ho1 ho0 (by omega) (by omega) hma hck

set_option maxHeartbeats 2000000 in
theorem mstep_is (sh : Int) (hs : 1 ≤ sh ∧ sh ≤ 16) : IsStep 163 (.agg #[.int .i64 sh]) mGood (mStep sh) := by
  intro w b fb O P M F h hf hd hg hck
  obtain ⟨a0, k0, a1, k1, hB, _⟩ := hf.box
  have hfl := hB.lt
  have hsf := run_store_flt (P := Tryz.prog)
  have c0 := (hB.get 0 _ rfl).1
  obtain ⟨W1, hW1, hb0, hsz0, hR0, hA0⟩ := two_new w [.int .i64 sh] Ans.zero.l 147 46 0
  have hW2 : (w.alloc (.cells #[.int .i64 sh] 147)).alloc (.cells #[.bool false, .float .f64 0, .int .i64 0, .int .i64 0] 46) = W1 := hW1
  clear hW1
  have r0 := (hR0.get 0 _ rfl).1
  have c01 := (hb0.cell (p := ⟨fb, 0, none⟩) hfl).trans c0
  have hM1 := h.below hb0
  have hf1 := hf.below hb0
  have FIN := hidq (fun e w2 (hE : StepEnd b fb O P (mStep sh M F) W1 e w2) => stepEnd_on hb0 h.lt hf.lt hE hA0 (Nat.le_succ _))
  have GA := hidq (fun w2 (hb : But (fun k => O k ∨ P k) W1 w2) => hA0.but hb (fun e => by
    rcases e with e | e
    · have := h.lt _ e; omega
    · have := hf.lt _ e; omega))
  rcases hg.2.2.2 with ⟨hk, _⟩ | ⟨hk, _⟩
  · have hC := hidq (ins_any sh W1 b fb O P M F hM1 hf1 hd hs hg hk hck)
    rw [hk] at c0 c01
    clear h hf hd hB hb0 hR0 hA0 hM1 hf1 hk hg
    generalize mStep sh M F = r at *
    obtain ⟨M', F', A, d⟩ := r
    obtain ⟨aok, api, av, an⟩ := A
    go_enter Tryz.func163, Tryz.ntmps163
    go_wp2_with fail
    refine hC.out.mono ?_
    intro e w2 hE
    obtain ⟨e1, e2⟩ := FIN.out _ _ hE
    obtain ⟨rfl, _, _, _, _, _, _, _, hb2⟩ := hE
    have hA2 := GA.out _ hb2
    obtain ⟨g0, x0⟩ := hA2.get 0 _ rfl
    obtain ⟨g1, x1⟩ := hA2.get 1 _ rfl
    obtain ⟨g2, x2⟩ := hA2.get 2 _ rfl
    obtain ⟨g3, x3⟩ := hA2.get 3 _ rfl
    have E1 := hidq e1
    have E2 := hidq e2
    clear e1 e2 hA2 hb2 hC FIN GA hW2
    go_wp2
    exact ret_ans Tryz.results163 E1.out rfl rfl rfl E2.out
  · have hC := hidq (rem_any sh W1 b fb O P M F hM1 hf1 hd hs hg hk hck)
    rw [hk] at c0 c01
    clear h hf hd hB hb0 hR0 hA0 hM1 hf1 hk hg
    generalize mStep sh M F = r at *
    obtain ⟨M', F', A, d⟩ := r
    obtain ⟨aok, api, av, an⟩ := A
    go_enter Tryz.func163, Tryz.ntmps163
    go_wp2_with fail
    refine hC.out.mono ?_
    intro e w2 hE
    obtain ⟨e1, e2⟩ := FIN.out _ _ hE
    obtain ⟨rfl, _, _, _, _, _, _, _, hb2⟩ := hE
    have hA2 := GA.out _ hb2
    obtain ⟨g0, x0⟩ := hA2.get 0 _ rfl
    obtain ⟨g1, x1⟩ := hA2.get 1 _ rfl
    obtain ⟨g2, x2⟩ := hA2.get 2 _ rfl
    obtain ⟨g3, x3⟩ := hA2.get 3 _ rfl
    have E1 := hidq e1
    have E2 := hidq e2
    clear e1 e2 hA2 hb2 hC FIN GA hW2
    go_wp2
    exact ret_ans Tryz.results163 E1.out rfl rfl rfl E2.out
end Go.Proofs.YtbcmilfajeanbaaGreat

namespace Go.Proofs.YtbcmilfajeanbaaGreat
open Go.RowKit Go.Sort

/-- The cell of a slot. -/
def kslot (k seg j : Int) : Int := 2 + seg * k + j
theorem kmul {k seg : Int} (hk : 1 ≤ k ∧ k ≤ 16) (hs : 0 ≤ seg ∧ seg ≤ 1000) : 0 ≤ seg * k ∧ seg * k ≤ 16000 :=
  ⟨Int.mul_nonneg hs.1 (by omega), by have := Int.mul_le_mul hs.2 hk.2 (by omega) (by decide); omega⟩

set_option maxRecDepth 20000 in
theorem kslot_any (k seg j : Int) (w : World) (hk : 1 ≤ k ∧ k ≤ 16) (hs : 0 ≤ seg ∧ seg ≤ 1000) (hj : 0 ≤ j ∧ j ≤ 1000) :
    Calls Tryz.prog 97 #[.agg #[.int .i64 k], .int .i64 seg, .int .i64 j] w fun e w' => e = .returned (.int .i64 (kslot k seg j)) ∧ Below w.heap.size w w' := by
  have hm := kmul hk hs
  unfold kslot
  obtain ⟨p, hp⟩ : ∃ p, seg * k = p := ⟨_, rfl⟩
  rw [hp] at hm ⊢
  obtain ⟨hm0, hm1⟩ := hm
  obtain ⟨hj0, hj1⟩ := hj
  clear hk hs
  go_enter Tryz.func97, Tryz.ntmps97
  go_wp2_with fail
  go_ret
  exact ⟨rfl, (Below.refl _ _).alloc (Nat.le_refl _) _⟩

/-- Is there room for a segment? -/
def kfits (k seg : Int) : Bool := decide (0 ≤ seg ∧ seg < 1000 ∧ kslot k seg (k - 1) < 1000)
set_option maxRecDepth 20000 in
theorem kfits_any (k seg : Int) (w : World) (hk : 1 ≤ k ∧ k ≤ 16) :
    Calls Tryz.prog 181 #[.agg #[.int .i64 k], .int .i64 seg] w fun e w' => e = .returned (.bool (kfits k seg)) ∧ Below w.heap.size w w' := by
  obtain ⟨W1, hW1⟩ : ∃ W1, w.alloc (.cells #[.int .i64 k] 151) = W1 := ⟨_, rfl⟩
  have hb1 : Below w.heap.size w W1 := by rw [← hW1]; exact (Below.refl _ _).alloc (Nat.le_refl _) _
  have hR : BoxAt W1 w.heap.size [.int .i64 k] := by rw [← hW1]; exact BoxAt.new w [.int .i64 k] 151
  have r0 := (hR.get 0 _ rfl).1
  have hrl := hR.lt
  clear hR
  by_cases h0 : 0 ≤ seg
  · by_cases h1 : seg < 1000
    · have hS := kslot_any k seg (k - 1) W1 hk (by omega) (by omega)
      have hf : kfits k seg = decide (kslot k seg (k - 1) < 1000) := by
        unfold kfits
        by_cases h : kslot k seg (k - 1) < 1000
        · rw [decide_eq_true h, decide_eq_true ⟨h0, h1, h⟩]
        · rw [decide_eq_false h, decide_eq_false (fun e => h e.2.2)]
      rw [hf]
      generalize kslot k seg (k - 1) = s at *
      have HS := hidq hS
      have HB := hidq hb1
      have hk0 : 0 ≤ k := by omega
      have hk1 : k ≤ 16 := hk.2
      clear hS hb1 hf hk
      go_enter Tryz.func181, Tryz.ntmps181
      go_wp2_with fail
      refine HS.out.mono ?_
      rintro e w2 ⟨rfl, hb2⟩
      have HB2 := hidq (HB.out.trans (hb2.mono HB.out.size))
      clear hb2 HS HB
      go_wp2_with fail
      go_ret
      exact ⟨rfl, HB2.out⟩
    · have hd : decide (seg < 1000) = false := decide_eq_false h1
      have hf : kfits k seg = false := decide_eq_false (fun e => h1 e.2.1)
      rw [hf]
      have HB := hidq hb1
      clear hb1 hf hk h1
      go_enter Tryz.func181, Tryz.ntmps181
      go_wp2_with fail
      go_ret
      exact ⟨rfl, HB.out⟩
  · have hd : decide (0 ≤ seg) = false := decide_eq_false h0
    have hf : kfits k seg = false := decide_eq_false (fun e => h0 e.1)
    rw [hf]
    have HB := hidq hb1
    clear hb1 hf hk h0
    go_enter Tryz.func181, Tryz.ntmps181
    go_wp2_with fail
    go_ret
    exact ⟨rfl, HB.out⟩
end Go.Proofs.YtbcmilfajeanbaaGreat
