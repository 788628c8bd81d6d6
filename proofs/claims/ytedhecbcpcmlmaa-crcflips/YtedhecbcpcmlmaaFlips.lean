/-
  CrcFlips, walked.
-/
import Derived.Test.YtedhecbcpcmlmaaBursts
import Derived.Test.YtedhecbcpcmlmaaCrcFlip
import Derived.RegionTactic
namespace Go.Proofs.Ytedhecbcpcmlmaa
open Go.RowKit

theorem plainInt : Sl.Plain1 Try.prog 68 3 := ⟨(Try.prog.info? 3).getD default, .int .i64 0, Try.underlying68, by kernel_rfl, by kernel_rfl, by kernel_rfl, by decide +kernel, rfl⟩

theorem flips_told (p l : List UInt8) (ds : List Nat) (hp : p.length ≤ 1200) (hl : l.length = p.length + 4) (hle : Oct.leB l = Oct.leB (sealB p) ^^^ Crc.flips ds) (hne : ds ≠ []) (h3 : ds.length ≤ 3) (hnd : ds.Nodup) (hlt : ∀ d ∈ ds, d < 8 * l.length) :
    Oct.leB (l.drop p.length) = Crc.more 0 (l.take p.length) ↔ False := by
  rw [seal_told p l _ hl hle, iff_false]
  exact Crc.flips_ne _ (by omega) ds hne h3 hnd (fun i hi => by have := hlt i hi; omega)

/-- Places of bits as cells. -/
def ints (l : List Nat) : List Value := l.map fun d : Nat => Value.int .i64 (d : Int)
theorem ints_length (l : List Nat) : (ints l).length = l.length := by simp [ints]
theorem ints_snoc (l : List Nat) (d : Nat) : ints l ++ [.int .i64 (d : Int)] = ints (l ++ [d]) := by simp [ints]

theorem clamp3 (i : Int) : ∃ (m : Int) (p : Nat), (if 3 < i then 3 else i) = m ∧ (if 0 < m then m else 0) = (p : Int) ∧ p ≤ 3 := by
  refine ⟨_, (if 0 < (if 3 < i then 3 else i) then (if 3 < i then 3 else i) else 0).toNat, rfl, ?_, ?_⟩
  · split <;> split <;> omega
  · split <;> split <;> omega

theorem norm_rem (x n : Int) (hn : 0 < n) : ∃ (r : Int) (v : Nat), x.tmod n = r ∧ -n < r ∧ r < n ∧ (r + n).tmod n = (v : Int) ∧ (v : Int) < n := by
  refine ⟨_, ((x.tmod n + n) % n).toNat, rfl, Int.lt_tmod_of_pos x hn, Int.tmod_lt_of_pos x hn, ?_, ?_⟩
  · have h1 := Int.lt_tmod_of_pos x hn
    rw [Int.tmod_eq_emod_of_nonneg (by omega)]
    exact (Int.toNat_of_nonneg (Int.emod_nonneg _ (by omega))).symm
  · rw [Int.toNat_of_nonneg (Int.emod_nonneg _ (by omega))]
    exact Int.emod_lt_of_pos _ hn

theorem eq_cast (a b : Nat) : decide (a = b) = ((a : Int) == (b : Int)) := by
  by_cases h : a = b
  · subst h; simp
  · have : ¬ (a : Int) = (b : Int) := by omega
    simp [h, this]
theorem Sl.Has.keeps {w w' : World} {g cap : Nat} {xs : List Value} (h : Sl.Has w g cap xs) (hk : Reg.Keeps w w') : Sl.Has w' g cap xs := h.block (hk.block g h.lt) hk.size
theorem Sl.Has.but {w w' : World} {g cap bi : Nat} {xs : List Value} (h : Sl.Has w g cap xs) (hB : But bi w w') (hne : g ≠ bi) : Sl.Has w' g cap xs :=
  h.block (hB.block g h.lt (fun e => hne (by injection e))) hB.size

theorem nodup_snoc {ds : List Nat} {v : Nat} (h : ds.Nodup) (hv : v ∉ ds) : (ds ++ [v]).Nodup := by
  rw [List.nodup_append]
  refine ⟨h, by simp, fun a ha c hc e => ?_⟩
  rw [List.mem_singleton.1 hc] at e
  exact hv (e ▸ ha)

def of3 (i j k : Int) (n : Nat) : Int := if n = 0 then i else if n = 1 then j else k

set_option maxRecDepth 10000 in
set_option maxHeartbeats 1600000 in
theorem crcFlips_any (s : ByteArray) (times i j k : Int) (w : World) (hs : s.size ≤ maxLen)
    (hi0 : -9223372036854775808 ≤ i) (hi1 : i ≤ 9223372036854775807) (hj0 : -9223372036854775808 ≤ j) (hj1 : j ≤ 9223372036854775807) (hk0 : -9223372036854775808 ≤ k) (hk1 : k ≤ 9223372036854775807) :
    Calls Try.prog 11 #[.string s, .int .i64 times, .int .i64 i, .int .i64 j, .int .i64 k] w fun e w' => e = .returned (.bool true) ∧ Below w.heap.size w w' := by
  obtain ⟨tm, T, em, eT, hT⟩ := clamp3 times
  go_enter Try.func11, Try.ntmps11
  go_wp2_with fail
  refine (awake2_any _).mono ?_
  rintro e w2 ⟨rfl, hk2⟩
  go_wp2_with fail
  refine (make_any _).mono ?_
  rintro e w3 ⟨b, rfl, hb3, hb, hk3, ht⟩
  have Ht : Hid (TabAt w3 b) := ht
  have HK3 : Hid (Below w.heap.size w w3) := hk2.trans (hk3.mono hk2.size)
  clear ht hk2 hk3 hb3
  go_wp2_with fail
  refine (cut_any s 300 _ hs).mono ?_
  rintro e w4 ⟨rfl, rfl⟩
  have hs2 : (s.extract 0 300).size ≤ 300 := by rw [extract_size]; omega
  generalize s.extract 0 300 = t at *
  go_wp2
  clear em eT
  go_loopw [12, 31] (fun y c wr => ∃ (q : Nat) (Y : ByteArray), q ≤ T ∧ c = .int .i64 (q : Int) ∧ y = .string Y ∧ Y.size ≤ 300 * (q + 1) ∧ wr = w4) (fun _ c _ => T - (intOf c).toNat)
  case atStart => exact ⟨0, t, by omega, rfl, rfl, by omega, rfl⟩
  case round =>
    obtain ⟨q, Y, hq, rfl, rfl, hY, rfl⟩ := hrel
    by_cases hlt : q < T
    · have hsz : (Y ++ t).size ≤ 300 * (q + 1 + 1) := by rw [ByteArray.size_append]; omega
      go_wp2
      go_roundw
      case rel => exact ⟨q + 1, Y ++ t, by omega, by go_num, rfl, hsz, trivial⟩
      case measure => simp [intOf]; omega
    · have hY2 : Y.size ≤ 1200 := by omega
      clear hY
      go_wp2_with fail
      refine (seal_any b Y _ Ht.out hb (by omega)).mono ?_
      rintro e w5 ⟨rfl, hk5⟩
      have Ht5 : Hid (TabAt w5 b) := Ht.out.below hb hk5
      have hb5 : b < w5.heap.size := Nat.lt_of_lt_of_le hb hk5.size
      have HK5 : Hid (Below w.heap.size w w5) := HK3.out.trans (hk5.mono HK3.out.size)
      clear Ht hb HK3 hk5
      obtain ⟨v, w6, hrun, ho, hk6, hnn, hown⟩ := run_bytes ⟨(sealB Y.data.toList).toArray⟩ w5 (by rw [ba_size, sealB_length]; simp; omega)
      obtain ⟨N, hN⟩ : ∃ N, (sealB Y.data.toList).length = N := ⟨_, rfl⟩
      have hNt : N = Y.size + 4 := by rw [← hN, sealB_length]; simp
      obtain ⟨g, cap, rfl, has⟩ : ∃ g cap, v = .slice (some ⟨g, 0, none⟩) N cap ∧ Sl.Has w6 g cap (Sl.cells (sealB Y.data.toList)) := by
        rcases ho with ⟨h, _⟩ | ⟨g, cap, h, h2⟩
        · exact absurd h hnn
        · rw [Sl.cells_length] at h
          exact ⟨g, cap, by rw [h, ← hN], h2⟩
      have hg : g = w5.heap.size := by simpa [Value.ownBlock] using hown
      have hgw : w.heap.size ≤ g := by rw [hg]; exact HK5.out.size
      have hbg : b < g := by omega
      have Ht6 : Hid (TabAt w6 b) := Ht5.out.below hb5 hk6
      have hb6 : b < w6.heap.size := Nat.lt_of_lt_of_le hb5 hk6.size
      have HK6 : Hid (Below w.heap.size w w6) := HK5.out.trans (hk6.mono HK5.out.size)
      have hN2 : N ≤ 1204 := by omega
      have hN4 : 4 ≤ N := by omega
      have HNt := hid hNt
      clear hNt
      clear ho hnn hown hg hk6 Ht5 hb5 HK5
      go_wp2
      clear hrun
      obtain ⟨S, hS⟩ : ∃ S, sealB Y.data.toList = S := ⟨_, rfl⟩
      rw [hS] at has hN
      have HS := hid hS
      clear hS
      have hgd0 : g < w6.heap.size := has.lt
      obtain ⟨w7, hw7⟩ : ∃ w7, (w6.alloc (Obj.cells #[] 3)).alloc (Obj.cells #[.int .i64 i, .int .i64 j, .int .i64 k] 3) = w7 := ⟨_, rfl⟩
      have hk7 : Reg.Keeps w6 w7 := by rw [← hw7]; exact ((Reg.Keeps.refl _).alloc _).alloc _
      have has7 : Sl.Has w7 g cap (Sl.cells S) := has.block (hk7.block g hgd0) hk7.size
      have hd7 : Sl.Has w7 w6.heap.size 0 (ints []) := by
        rw [← hw7]
        rcases (own_empty w6 3).alloc (Obj.cells #[.int .i64 i, .int .i64 j, .int .i64 k] 3) with ⟨h, _⟩ | ⟨g', cap', h, h2⟩
        · cases h
        · injection h with h3 h4 h5
          injection h3 with h3
          injection h3 with h3
          subst h3 h5
          exact h2
      have hc7 : ∀ n, n < 3 → w7.cell? ⟨w6.heap.size + 1, n, none⟩ = some (.int .i64 (of3 i j k n)) := by
        intro n hn
        rw [← hw7]
        have : n = 0 ∨ n = 1 ∨ n = 2 := by omega
        rcases this with rfl | rfl | rfl <;> simp [of3]
      have hgi : w6.heap.size + 1 < w7.heap.size := by rw [← hw7]; simp
      have hx0 : ∀ n, -9223372036854775808 ≤ of3 i j k n ∧ of3 i j k n ≤ 9223372036854775807 := by
        intro n
        unfold of3
        split
        · exact ⟨hi0, hi1⟩
        · split
          · exact ⟨hj0, hj1⟩
          · exact ⟨hk0, hk1⟩
      have HK7 : Hid (Below w.heap.size w w7) := HK6.out.trans (hk7.mono HK6.out.size)
      have Ht7 : Hid (TabAt w7 b) := Ht6.out.below hb6 hk7
      have hb7 : b < w7.heap.size := Nat.lt_of_lt_of_le hb6 hk7.size
      rw [hw7]
      clear hw7 hk7 HK6 Ht6 hb6 has hi0 hi1 hj0 hj1 hk0 hk1
      generalize w6.heap.size = gd0 at *
      have hne : gd0 ≠ gd0 + 1 := by omega
      have hggi : gd0 + 1 ≠ g := by omega
      generalize gd0 + 1 = gi at *
      go_loopw [14, 16, 17, 19, 47] (fun d _ _ _ c wr => ∃ (m : Nat) (ds : List Nat) (gd cd : Nat) (l : List UInt8), m ≤ 3 ∧ c = .int .i64 (m : Int) ∧ d = .slice (some ⟨gd, 0, none⟩) ds.length cd ∧ Sl.Has wr gd cd (ints ds) ∧ g < gd ∧ gd ≠ gi ∧ gi < wr.heap.size ∧ l.length = N ∧ Oct.leB l = Oct.leB S ^^^ Crc.flips ds ∧ Sl.Has wr g cap (Sl.cells l) ∧ ds.Nodup ∧ (∀ e ∈ ds, e < 8 * N) ∧ ds.length ≤ m ∧ (0 < m → ds ≠ []) ∧ (∀ n, n < 3 → wr.cell? ⟨gi, n, none⟩ = some (.int .i64 (of3 i j k n))) ∧ Below w.heap.size w wr ∧ TabAt wr b ∧ b < wr.heap.size) (fun _ _ _ _ c _ => 3 - (intOf c).toNat)
      case atStart => exact ⟨0, [], gd0, 0, S, by omega, rfl, rfl, hd7, hgd0, hne, hgi, hN, by simp [Crc.flips], has7, List.nodup_nil, (fun _ h => by cases h), Nat.le_refl _, (fun h => absurd h (Nat.lt_irrefl _)), hc7, HK7.out, Ht7.out, hb7⟩
      case round =>
        obtain ⟨m, ds, gd, cd, l, hm, rfl, rfl, hhd, hgg, hne2, hgi2, hl, hle, hasl, hnd, hall, hdl, hdn, hcs, hbl, htl, hbz⟩ := hrel
        have Hle := hid (fun _ : Unit => hle)
        have Hbl := hid hbl
        have Htl := hid htl
        have Hnd := hid hnd
        have Hall := hid hall
        have Hdn := hid hdn
        have Hcs := hid hcs
        have Has := hid hasl
        have Hd := hid hhd
        clear hle hbl htl hnd hall hdn hcs hasl hhd hd7 has7 hc7 HK7 Ht7 hb7 hgi
        by_cases hlt2 : m < 3
        · have hcx := Hcs.out m hlt2
          obtain ⟨hx1, hx2⟩ := hx0 m
          generalize of3 i j k m = x at *
          have i1 : (m : Int) < 3 := by omega
          have i0 : ¬ (8 * (N : Int)) = 0 := by omega
          obtain ⟨r, v, er, hr1, hr2, ev, hv⟩ := norm_rem x (8 * (N : Int)) (by omega)
          go_wp2
          clear hcx hx1 hx2 er hr1 hr2 ev
          go_loopw [17, 19, 66] (fun se _ c wr2 => ∃ h : Nat, h ≤ ds.length ∧ c = .int .i64 (h : Int) ∧ se = .bool (decide (v ∈ ds.take h)) ∧ wr2 = wr) (fun _ _ c _ => ds.length - (intOf c).toNat)
          case atStart => exact ⟨0, Nat.zero_le _, rfl, by simp, rfl⟩
          case round =>
            obtain ⟨h, hh, rfl, rfl, rfl⟩ := hrel
            by_cases hlt3 : h < ds.length
            · obtain ⟨d, hd⟩ : ∃ d, ds[h] = d := ⟨_, rfl⟩
              have hcd := Hd.out.holds h (.int .i64 (d : Int)) (by rw [← hd]; simp [ints, hlt3])
              have htk : ds.take (h + 1) = ds.take h ++ [d] := by rw [← hd]; simp
              have i3 : (h : Int) < (ds.length : Int) := by omega
              by_cases hin : v ∈ ds.take h
              · have e1 : decide (v ∈ ds.take h) = true := decide_eq_true hin
                have e2 : decide (v ∈ ds.take (h + 1)) = true := decide_eq_true (by rw [htk]; simp [hin])
                rw [e1]
                go_wp2
                go_roundw
                case rel => exact ⟨h + 1, by omega, by go_num, by rw [e2], trivial⟩
                case measure => simp [intOf]; omega
              · have e1 : decide (v ∈ ds.take h) = false := decide_eq_false hin
                have e2 : decide (v ∈ ds.take (h + 1)) = decide (v = d) := by rw [htk]; simp [hin]
                rw [e1]
                go_wp2
                go_roundw
                case rel => exact ⟨h + 1, by omega, by go_num, by rw [e2, eq_cast], trivial⟩
                case measure => simp [intOf]; omega
            · obtain rfl : h = ds.length := by omega
              rw [List.take_length]
              by_cases hin : v ∈ ds
              · have e1 : decide (v ∈ ds) = true := decide_eq_true hin
                rw [e1]
                go_wp2
                go_roundw
                case rel =>
                  exact ⟨m + 1, ds, gd, cd, l, by omega, by go_num, rfl, Hd.out, hgg, hne2, hgi2, hl, Hle.out (), Has.out, Hnd.out, Hall.out, by omega, (fun _ h => by rw [h] at hin; cases hin), Hcs.out, Hbl.out, Htl.out, hbz⟩
                case measure => simp [intOf]; omega
              · have e1 : decide (v ∈ ds) = false := decide_eq_false hin
                rw [e1]
                go_wp2_with (at_builtin; refine Sl.wpList_append plainInt _ rfl (.tmp 79) (.tmp 81) 68 rfl (.slice (some ⟨gd, 0, none⟩) ds.length cd) (ints ds) rfl (.inr ⟨gd, cd, by rw [ints_length], Hd.out.keeps ((Reg.Keeps.refl _).alloc _)⟩) _ rfl 1 [_] (Sl.src_one _ 68 3 Try.underlying68 _ rfl 3) (.inl Nat.one_pos) ?hb ?_; (case hb => rw [ints_length]; omega); intro v' w8 ho' hf' hn')
                rw [ints_snoc] at ho'
                obtain ⟨gd', cd', rfl, hhd'⟩ : ∃ gd' cd', v' = .slice (some ⟨gd', 0, none⟩) (ds ++ [v]).length cd' ∧ Sl.Has w8 gd' cd' (ints (ds ++ [v])) := by
                  rcases ho' with ⟨h, _⟩ | ⟨g', c', h, h2⟩
                  · exact absurd h hn'
                  · exact ⟨g', c', by rw [h, ints_length], h2⟩
                have hB : But gd _ w8 := hf'.grown
                have hlie := hf'.lies gd' rfl
                have hwa : (wr.alloc (Obj.cells #[.int .i64 (v : Int)] 3)).heap.size = wr.heap.size + 1 := by simp
                have hgr : g < wr.heap.size := Has.out.lt
                have hgd' : g < gd' ∧ gd' ≠ gi := by
                  rcases hlie with h | h
                  · have h2 : gd = gd' := by simpa [Value.ownBlock] using h
                    subst h2
                    exact ⟨hgg, hne2⟩
                  · exact ⟨by omega, by omega⟩
                have hkal : Reg.Keeps wr (wr.alloc (Obj.cells #[.int .i64 (v : Int)] 3)) := (Reg.Keeps.refl _).alloc _
                have has8 : Sl.Has w8 g cap (Sl.cells l) := (Has.out.keeps hkal).but hB (by omega)
                have Hcs8 : Hid (∀ n, n < 3 → w8.cell? ⟨gi, n, none⟩ = some (.int .i64 (of3 i j k n))) := fun n hn => cell_but (cell_keeps (Hcs.out n hn) hkal) hB (Ne.symm hne2)
                have Ht8 : Hid (TabAt w8 b) := (Htl.out.alloc hbz _).but (by omega) hB (by omega)
                have HK8 : Hid (Below w.heap.size w w8) := (Hbl.out.alloc Hbl.out.size _).trans (hB.below (by omega) (Nat.le_trans Hbl.out.size (by omega)))
                have hs8 : wr.heap.size ≤ w8.heap.size := Nat.le_trans (by omega) hB.size
                obtain ⟨q2, hq2⟩ : ∃ q2, q2 = v / 8 := ⟨_, rfl⟩
                obtain ⟨r2, hr2⟩ : ∃ r2, r2 = v % 8 := ⟨_, rfl⟩
                have e3 : (v : Int) / 8 = (q2 : Int) := by omega
                have e4 : (v : Int) % 8 = (r2 : Int) := by omega
                have hqN : q2 < N := by omega
                have i5 : (q2 : Int) < (N : Int) := by omega
                have hr8 : r2 < 8 := by omega
                have hv8 : v < 8 * N := by omega
                obtain ⟨u, hu⟩ : ∃ u : UInt8, l.getD q2 0 = u := ⟨_, rfl⟩
                have hcl : w8.cell? ⟨g, q2, none⟩ = some (.int .u8 (u.toNat : Int)) := by
                  rw [← hu]
                  refine has8.holds q2 _ ?_
                  have : q2 < l.length := by omega
                  simp [Sl.cells, this, List.getD_eq_getElem?_getD]
                have hfr : w8.frozen? ⟨g, q2, none⟩ = false := (has8.there q2 (by have := has8.le; rw [Sl.cells_length] at this; omega)).2
                have Hhd := hid hhd'
                have Has8 := hid has8
                have Hq := hid hq2
                have Hr := hid hr2
                have Hu := hid hu
                have Hin := hid hin
                clear hhd' has8 hq2 hr2 hu hin hB hf' hn' ho' hkal Has Hd Hbl Htl Hcs e1 hlie hv
                go_region
                go_wp2
                go_roundw
                case rel =>
                  have hx := xor_shift_byte u r2 hr8
                  have hpq : flipBit l v = l.set q2 (u ^^^ UInt8.ofNat (2 ^ r2)) := by
                    unfold flipBit
                    rw [← Hq.out, ← Hr.out, Hu.out]
                  have hBs : But g w8 (w8.setCell ⟨g, q2, none⟩ (.int .u8 (bits BinOp.xor IntKind.u8 (u.toNat : Int) (2 ^ r2 % 256)))) := But.set g w8 q2 _
                  refine ⟨m + 1, ds ++ [v], gd', cd', flipBit l v, by omega, by go_num, rfl, (Hhd.out.but hBs (by omega)).block rfl (Nat.le_refl _), hgd'.1, hgd'.2, by rw [World.size_drew, World.size_setCell]; omega, by rw [flipBit_length]; exact hl, ?_, ?_, ?_, ?_, by simp; omega, by simp, ?_, (HK8.out.setCell hgw _).drew, (Ht8.out.but (by omega) hBs (by omega)).drewN, by rw [World.size_drew, World.size_setCell]; omega⟩
                  · rw [leB_flip l v (by rw [hl]; exact hv8), Hle.out (), Crc.flips_append, Nat.xor_assoc]
                  · rw [hpq]
                    exact (Sl.Has.setByte Has8.out (by rw [hl]; exact hqN) _ hx).block rfl (Nat.le_refl _)
                  · exact nodup_snoc Hnd.out Hin.out
                  · intro e he
                    rcases List.mem_append.1 he with h | h
                    · exact Hall.out e h
                    · rw [List.mem_singleton.1 h]; exact hv8
                  · intro n hn
                    rw [World.cell?_drew]
                    exact cell_but (Hcs8.out n hn) hBs hggi
                case measure => simp [intOf]; omega
        · obtain rfl : m = 3 := by omega
          have hif := flips_told Y.data.toList l ds (by simpa using hY2) (by rw [hl]; simpa using HNt.out) (by rw [Hle.out (), HS.out]) (Hdn.out (by decide)) hdl Hnd.out (by rw [hl]; exact Hall.out)
          have hst := str_of wr _ l (.inr ⟨g, cap, rfl, Has.out⟩)
          rw [Sl.cells_length, hl] at hst
          have Hop := hid (fun w h1 h2 => open_cells b Y.data.toList l w h1 h2 (by rw [hl]; simpa using HNt.out) (by omega) _ hif)
          clear hif Hle HS HNt Hnd Hall Hcs Hdn Hd Has
          go_wp2_with fail
          refine (Hop.out _ Htl.out hbz).mono ?_
          rintro e w9 ⟨⟨v, rfl, hv1, hv2⟩, hk9⟩
          have HK9 : Hid (Below w.heap.size w w9) := Hbl.out.trans (hk9.mono Hbl.out.size)
          clear hk9 Hbl Htl Hop hst
          have hv := hv2 (fun h => h)
          subst hv
          clear hv1 hv2
          go_wp2
          go_ret
          exact ⟨rfl, HK9.out⟩

theorem crcFlips_row (a0 : ByteArray) (a1 a2 a3 a4 : Int) (w0 : a0.size ≤ maxLen) (w2 : (Lit.int .i64 a2).wf = true) (w3 : (Lit.int .i64 a3).wf = true) (w4 : (Lit.int .i64 a4).wf = true) (w : World) :
    Calls Try.prog 11 #[.string a0, .int .i64 a1, .int .i64 a2, .int .i64 a3, .int .i64 a4] w fun e w' => e = .returned (.bool true) ∧ Below w.heap.size w w' :=
  crcFlips_any a0 a1 a2 a3 a4 w w0 (wf_i64 w2).1 (wf_i64 w2).2 (wf_i64 w3).1 (wf_i64 w3).2 (wf_i64 w4).1 (wf_i64 w4).2
end Go.Proofs.Ytedhecbcpcmlmaa
