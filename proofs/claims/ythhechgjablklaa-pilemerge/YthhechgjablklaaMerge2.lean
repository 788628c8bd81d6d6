/-
  Layer 4: PileMerge: two piles, taken from the one whose first item is ahead: the call returns true.
-/
import Derived.Test.YthhechgjablklaaPileO
import Derived.Test.YthhechgjablklaaRaws4
namespace Go.Proofs.Ythhechgjablklaa
open Go.RowKit Go.Sort

/-- Three piles in blocks of their own. -/
structure Tri (w wr : World) (bp gp : Nat) (dp : Array KI) (bq gq : Nat) (dq : Array KI) (ba ga : Nat) (da : Array KI) : Prop where
  p : HeapAt wr bp gp dp
  q : HeapAt wr bq gq dq
  a : HeapAt wr ba ga da
  pq : bp ≠ bq ∧ bp ≠ gq ∧ gp ≠ bq ∧ gp ≠ gq
  qa : bq ≠ ba ∧ bq ≠ ga ∧ gq ≠ ba ∧ gq ≠ ga
  ap : ba ≠ bp ∧ ba ≠ gp ∧ ga ≠ bp ∧ ga ≠ gp
  lop : w.heap.size ≤ bp ∧ w.heap.size ≤ gp
  loq : w.heap.size ≤ bq ∧ w.heap.size ≤ gq
  loa : w.heap.size ≤ ba ∧ w.heap.size ≤ ga
  below : Below w.heap.size w wr
theorem HeapAt.lts {w : World} {b g : Nat} {d : Array KI} (h : HeapAt w b g d) : b < w.heap.size ∧ g < w.heap.size := by
  obtain ⟨cap, hP⟩ := h.pile; exact ⟨hP.blt, hP.row.lt⟩
theorem Tri.rot {w wr : World} {bp gp : Nat} {dp : Array KI} {bq gq : Nat} {dq : Array KI} {ba ga : Nat} {da : Array KI} (h : Tri w wr bp gp dp bq gq dq ba ga da) : Tri w wr bq gq dq ba ga da bp gp dp :=
  ⟨h.q, h.a, h.p, h.qa, h.ap, h.pq, h.loq, h.loa, h.lop, h.below⟩
/-- The first one of them is turned. -/
theorem Tri.turn {w wr w' : World} {bp gp gp' : Nat} {dp dp' : Array KI} {bq gq : Nat} {dq : Array KI} {ba ga : Nat} {da : Array KI} (h : Tri w wr bp gp dp bq gq dq ba ga da)
    (hp : HeapAt w' bp gp' dp') (hb : But (fun k => k = bp ∨ k = gp) wr w') (hg : gp' = gp ∨ wr.heap.size ≤ gp') : Tri w w' bp gp' dp' bq gq dq ba ga da := by
  have l1 := h.p.lts; have l2 := h.q.lts; have l3 := h.a.lts
  have h1 := h.pq; have h2 := h.ap; have h3 := h.lop; have h4 := h.below.size
  exact ⟨hp, h.q.but hb (by omega) (by omega), h.a.but hb (by omega) (by omega), by omega, h.qa, by omega, by omega, h.loq, h.loa, h.below.trans (hb.below h4 (fun k hk => by omega))⟩
theorem Tri.still {w wr w' : World} {bp gp : Nat} {dp : Array KI} {bq gq : Nat} {dq : Array KI} {ba ga : Nat} {da : Array KI} (h : Tri w wr bp gp dp bq gq dq ba ga da) (hb : But (fun _ => False) wr w') : Tri w w' bp gp dp bq gq dq ba ga da :=
  ⟨h.p.but hb id id, h.q.but hb id id, h.a.but hb id id, h.pq, h.qa, h.ap, h.lop, h.loq, h.loa, h.below.trans (hb.below h.below.size (fun _ e => e.elim))⟩

theorem new_none (w : World) : Calls Try.prog 20 #[.slice none 0 0] w fun e w' => ∃ b g, e = .returned (.pointer (some ⟨b, 0, none⟩)) ∧ w.heap.size ≤ b ∧ w.heap.size ≤ g ∧ b ≠ g ∧ HeapAt w' b g #[] ∧ Below w.heap.size w w' := by
  refine (new_any none 0 0 (fun _ => 0) (fun _ => 0) w (fun i hi => absurd hi (Nat.not_lt_zero _)) (by decide)).mono ?_
  rintro e w' ⟨b, g, d, rfl, hb, hg, hH, hp, hB⟩
  have hs : d.size = 0 := by have := hp.length_eq; simpa [canArr] using this
  have hd : d = #[] := Array.eq_empty_of_size_eq_zero hs
  subst hd
  obtain ⟨cap, hP⟩ := hH.pile
  exact ⟨b, g, rfl, hb, hg, hP.ne, hH, hB⟩

/-- How many, of a world. -/
def sizeAt (b : Nat) (w : World) : Nat := match w.cell? ⟨b, 0, none⟩ with | some (.slice _ n _) => n | _ => 0
theorem HeapAt.sizeAt {w : World} {b g : Nat} {d : Array KI} (h : HeapAt w b g d) : sizeAt b w = d.size := by
  obtain ⟨cap, hP⟩ := h.pile
  unfold Go.Proofs.Ythhechgjablklaa.sizeAt; rw [hP.hd]

theorem cmpN_refl (m : Nat) (a : Int) : cmpN m a m a = 0 := by rw [cmpN_same (cmpI_eq rfl)]; exact cmpI_eq rfl
/-- Two least ones of one list are the same. -/
theorem least_eq {L : List KI} {x y : KI} (hx : x ∈ L) (hy : y ∈ L) (lx : ∀ z ∈ L, z.lt x = false) (ly : ∀ z ∈ L, z.lt y = false) : x = y := KI.total x y (ly x hx) (lx y hy)
theorem size_pos_of {d : Array KI} (h : ¬ d.size = 0) : 0 < d.size := Nat.pos_of_ne_zero h
theorem toList_nil {d : Array KI} (h : d.size = 0) : d.toList = [] := by rw [Array.eq_empty_of_size_eq_zero h]

set_option maxHeartbeats 4000000 in
theorem merge_any (a1 a2 : Option Addr) (n1 n2 c1 c2 : Nat) (K1 M1 K2 M2 : Nat → Int) (w : World) (h1 : Raws w a1 n1 K1 M1) (h2 : Raws w a2 n2 K2 M2) :
    Calls Try.prog 5 #[.slice a1 n1 c1, .slice a2 n2 c2] w fun e w' => e = .returned (.bool true) ∧ Below w.heap.size w w' := by
  go_enter Try.func5, Try.ntmps5
  go_wp2_with (go_at_call 16; refine (awake4_any _).mono ?_; rintro e w1 ⟨rfl, hb1⟩)
  refine (new_none _).mono ?_
  rintro e w2 ⟨bp, gp, rfl, p1, p2, p3, hp, hb2⟩
  go_wp2_with fail
  refine (new_none _).mono ?_
  rintro e w3 ⟨bq, gq, rfl, q1, q2, q3, hq, hb3⟩
  go_wp2_with fail
  refine (new_none _).mono ?_
  rintro e w4 ⟨ba, ga, rfl, r1, r2, r3, ha, hb4⟩
  have hT : Tri w w4 bp gp #[] bq gq #[] ba ga #[] := by
    have l1 := hp.lts; have l2 := hq.lts
    have s1 := hb1.size; have s2 := hb2.size; have s3 := hb3.size
    exact ⟨(hp.but (S := fun _ => False) (But.of_below hb3) id id).but (S := fun _ => False) (But.of_below hb4) id id, hq.but (S := fun _ => False) (But.of_below hb4) id id, ha, by omega, by omega, by omega, by omega, by omega, by omega,
      ((hb1.trans (hb2.mono (by omega))).trans (hb3.mono (by omega))).trans (hb4.mono (by omega))⟩
  clear hp hq ha hb1 hb2 hb3 hb4 p1 p2 p3 q1 q2 q3 r1 r2 r3
  go_wp2
  go_loopw [8] (fun s wr => ∃ (k gp ga : Nat) (dp da : Array KI), s = .int .i64 (k : Int) ∧ k ≤ n1 ∧ k ≤ 20 ∧ Tri w wr bp gp dp bq gq #[] ba ga da ∧ da.toList.Perm (dp.toList ++ []) ∧ dp.size ≤ k) (fun s _ => 20 - (intOf s).toNat)
  case atStart => exact ⟨0, gp, ga, #[], #[], rfl, Nat.zero_le _, Nat.zero_le _, hT, List.Perm.refl _, Nat.zero_le _⟩
  case round =>
    obtain ⟨k, gp, ga, dp, da, rfl, hk1, hk2, hT, hperm, hsz⟩ := hrel
    by_cases hlt : k < n1 ∧ k < 20
    · obtain ⟨gr, off, rfl, hgr, cr1, cr2, kr0, kr1⟩ := h1 k hlt.1
      have hB := hT.below
      have e1 : wr.cell? ⟨gr, off + k * 2, none⟩ = some (.int .u64 (K1 k)) := by rw [hB.cell (p := ⟨gr, off + k * 2, none⟩) hgr]; exact cr1
      have e2 : wr.cell? ⟨gr, off + k * 2 + 1, none⟩ = some (.int .i64 (M1 k)) := by rw [hB.cell (p := ⟨gr, off + k * 2 + 1, none⟩) hgr]; exact cr2
      have i1 : (k : Int) < (n1 : Int) := by omega
      have i2 : (k : Int) < 20 := by omega
      have hnf := nf_lt kr1
      have hdl : da.size ≤ 40 := by have := hperm.length_eq; simp at this; omega
      generalize hK : K1 k = kk at *
      generalize hM : M1 k = mm at *
      clear hK hM cr1 cr2 kr0 kr1
      go_wp2_with fail
      refine (own_any _ _ _).mono ?_
      rintro e w5 ⟨rfl, hb5⟩
      have hT5 := hT.still (But.of_below hb5)
      go_wp2_with fail
      refine (put_any bp gp (nf kk) mm dp _ hT5.p hnf (by omega)).mono ?_
      rintro e w6 ⟨rfl, gp', dp', hH6, hp6, hb6, hg6⟩
      have hT6 := hT5.turn hH6 hb6 hg6
      have hB6 := hT6.below
      have e3 : w6.cell? ⟨gr, off + k * 2, none⟩ = some (.int .u64 kk) := by rw [hB6.cell (p := ⟨gr, off + k * 2, none⟩) hgr, ← hB.cell (p := ⟨gr, off + k * 2, none⟩) hgr]; exact e1
      have e4 : w6.cell? ⟨gr, off + k * 2 + 1, none⟩ = some (.int .i64 mm) := by rw [hB6.cell (p := ⟨gr, off + k * 2 + 1, none⟩) hgr, ← hB.cell (p := ⟨gr, off + k * 2 + 1, none⟩) hgr]; exact e2
      clear hT hT5 hH6 hb6 hg6 hb5
      go_wp2_with fail
      refine (own_any _ _ _).mono ?_
      rintro e w7 ⟨rfl, hb7⟩
      have hT7 := hT6.still (But.of_below hb7)
      go_wp2_with fail
      refine (put_any ba ga (nf kk) mm da _ hT7.a hnf (by omega)).mono ?_
      rintro e w8 ⟨rfl, ga', da', hH8, hp8, hb8, hg8⟩
      have hT8 := (hT7.rot.rot.turn hH8 hb8 hg8).rot
      have hperm8 : da'.toList.Perm (dp'.toList ++ []) := by
        simp only [List.append_nil] at hperm ⊢
        exact (hp8.trans (hperm.cons _)).trans hp6.symm
      have hsz8 : dp'.size ≤ k + 1 := by have := hp6.length_eq; simp at this; omega
      clear hT6 hT7 hH8 hb8 hg8 hb7
      go_wp2
      go_roundw
      case rel => exact ⟨k + 1, gp', ga', dp', da', by go_num, by omega, by omega, hT8, hperm8, hsz8⟩
      case measure => simp [intOf]; omega
    · have hex : (decide (k < n1) = false ∧ decide ((k : Int) < (n1 : Int)) = false) ∨ ((k : Int) < (n1 : Int) ∧ decide ((k : Int) < 20) = false ∧ decide (k < 20) = false) := by
        by_cases e : (k : Int) < (n1 : Int)
        · exact .inr ⟨e, decide_eq_false (by omega), decide_eq_false (by omega)⟩
        · exact .inl ⟨decide_eq_false (by omega), decide_eq_false e⟩
      clear hlt
      rcases hex with ⟨x1, x2⟩ | ⟨x1, x2, x3⟩
      all_goals
        go_wp2
        go_loopw [9] (fun s wr => ∃ (k gq ga : Nat) (dq da : Array KI), s = .int .i64 (k : Int) ∧ k ≤ n2 ∧ k ≤ 20 ∧ Tri w wr bp gp dp bq gq dq ba ga da ∧ da.toList.Perm (dp.toList ++ dq.toList) ∧ dq.size ≤ k) (fun s _ => 20 - (intOf s).toNat)
        case atStart => exact ⟨0, gq, ga, #[], da, rfl, Nat.zero_le _, Nat.zero_le _, hT, hperm, Nat.zero_le _⟩
        case round =>
          obtain ⟨k, gq, ga, dq, da, rfl, hk1, hk2, hT, hperm, hsz2⟩ := hrel
          by_cases hlt : k < n2 ∧ k < 20
          · obtain ⟨gr, off, rfl, hgr, cr1, cr2, kr0, kr1⟩ := h2 k hlt.1
            have hB := hT.below
            have e1 : wr.cell? ⟨gr, off + k * 2, none⟩ = some (.int .u64 (K2 k)) := by rw [hB.cell (p := ⟨gr, off + k * 2, none⟩) hgr]; exact cr1
            have e2 : wr.cell? ⟨gr, off + k * 2 + 1, none⟩ = some (.int .i64 (M2 k)) := by rw [hB.cell (p := ⟨gr, off + k * 2 + 1, none⟩) hgr]; exact cr2
            have i1 : (k : Int) < (n2 : Int) := by omega
            have i2 : (k : Int) < 20 := by omega
            have hnf := nf_lt kr1
            have hdl : da.size ≤ 40 := by have := hperm.length_eq; simp at this; omega
            generalize hK : K2 k = kk at *
            generalize hM : M2 k = mm at *
            clear hK hM cr1 cr2 kr0 kr1
            go_wp2_with fail
            refine (own_any _ _ _).mono ?_
            rintro e w5 ⟨rfl, hb5⟩
            have hT5 := hT.still (But.of_below hb5)
            go_wp2_with fail
            refine (put_any bq gq (nf kk) mm dq _ hT5.q hnf (by omega)).mono ?_
            rintro e w6 ⟨rfl, gq', dq', hH6, hp6, hb6, hg6⟩
            have hT6 := (hT5.rot.turn hH6 hb6 hg6).rot.rot
            have hB6 := hT6.below
            have e3 : w6.cell? ⟨gr, off + k * 2, none⟩ = some (.int .u64 kk) := by rw [hB6.cell (p := ⟨gr, off + k * 2, none⟩) hgr, ← hB.cell (p := ⟨gr, off + k * 2, none⟩) hgr]; exact e1
            have e4 : w6.cell? ⟨gr, off + k * 2 + 1, none⟩ = some (.int .i64 mm) := by rw [hB6.cell (p := ⟨gr, off + k * 2 + 1, none⟩) hgr, ← hB.cell (p := ⟨gr, off + k * 2 + 1, none⟩) hgr]; exact e2
            clear hT hT5 hH6 hb6 hg6 hb5
            go_wp2_with fail
            refine (own_any _ _ _).mono ?_
            rintro e w7 ⟨rfl, hb7⟩
            have hT7 := hT6.still (But.of_below hb7)
            go_wp2_with fail
            refine (put_any ba ga (nf kk) mm da _ hT7.a hnf (by omega)).mono ?_
            rintro e w8 ⟨rfl, ga', da', hH8, hp8, hb8, hg8⟩
            have hT8 := (hT7.rot.rot.turn hH8 hb8 hg8).rot
            have hperm8 : da'.toList.Perm (dp.toList ++ dq'.toList) := by
              refine (hp8.trans (hperm.cons _)).trans ?_
              exact (List.perm_middle.symm).trans (hp6.symm.append_left _)
            have hsz8 : dq'.size ≤ k + 1 := by have := hp6.length_eq; simp at this; omega
            clear hT6 hT7 hH8 hb8 hg8 hb7
            go_wp2
            go_roundw
            case rel => exact ⟨k + 1, gq', ga', dq', da', by go_num, by omega, by omega, hT8, hperm8, hsz8⟩
            case measure => simp [intOf]; omega
          · have hex : (decide (k < n2) = false ∧ decide ((k : Int) < (n2 : Int)) = false) ∨ ((k : Int) < (n2 : Int) ∧ decide ((k : Int) < 20) = false ∧ decide (k < 20) = false) := by
              by_cases e : (k : Int) < (n2 : Int)
              · exact .inr ⟨e, decide_eq_false (by omega), decide_eq_false (by omega)⟩
              · exact .inl ⟨decide_eq_false (by omega), decide_eq_false e⟩
            clear hlt
            rcases hex with ⟨y1, y2⟩ | ⟨y1, y2, y3⟩
            all_goals
              go_wp2
              go_loopw [14] (fun _ wr => ∃ (dp dq da : Array KI), Tri w wr bp gp dp bq gq dq ba ga da ∧ da.toList.Perm (dp.toList ++ dq.toList)) (fun _ wr => sizeAt ba wr)
              case atStart => exact ⟨dp, dq, da, hT, hperm⟩
              case round =>
                obtain ⟨dp, dq, da, hT, hperm⟩ := hrel
                have hsf := run_store_float (P := Try.prog)
                have hlen := hperm.length_eq
                simp at hlen
                have HSA : Hid (∀ _ : Unit, sizeAt ba wr = da.size) := fun _ => hT.a.sizeAt
                by_cases h0 : da.size = 0
                · have hp0 : dp.size = 0 := by omega
                  have hq0 : dq.size = 0 := by omega
                  have hcn := count_any ba ga da wr hT.a
                  have hcp := count_any bp gp dp wr hT.p
                  have hcq := count_any bq gq dq wr hT.q
                  rw [h0] at hcn
                  rw [hp0] at hcp
                  rw [hq0] at hcq
                  have hbl := hT.below
                  clear hT hperm hlen HSA h0 hp0 hq0
                  go_wp2_with fail
                  refine hcn.mono ?_
                  rintro e w4 ⟨rfl, hw4⟩
                  replace hw4 := hw4.symm
                  subst hw4
                  go_wp2_with fail
                  refine hcp.mono ?_
                  rintro e w4 ⟨rfl, hw4⟩
                  replace hw4 := hw4.symm
                  subst hw4
                  go_wp2_with fail
                  refine hcq.mono ?_
                  rintro e w4 ⟨rfl, hw4⟩
                  replace hw4 := hw4.symm
                  subst hw4
                  go_wp2
                  go_ret
                  exact ⟨rfl, hbl⟩
                · have hda : 0 < da.size := size_pos_of h0
                  have hgt : (0 : Int) < (da.size : Int) := by omega
                  go_wp2_with fail
                  by_cases hdp : dp.size = 0
                  · have hdq : 0 < dq.size := by omega
                    have hzw : dq[0]! = da[0]! := by
                      refine least_eq (L := dp.toList ++ dq.toList) ?_ (hperm.mem_iff.1 (first_mem hda)) ?_ (fun z hz => hT.a.first z (hperm.mem_iff.2 hz))
                      · exact List.mem_append.2 (.inr (first_mem hdq))
                      · intro z hz
                        rcases List.mem_append.1 hz with hz | hz
                        · rw [toList_nil hdp] at hz; cases hz
                        · exact hT.q.first z hz
                    have hcn := count_any ba ga da wr hT.a
                    have HZ : Hid (∀ _ : Unit, dq[0]! = da[0]!) := fun _ => hzw
                    clear hzw
                    refine hcn.mono ?_
                    rintro e w4 ⟨rfl, hw4⟩
                    replace hw4 := hw4.symm
                    subst hw4
                    clear hcn
                    go_wp2_with fail
                    refine (first_none bp gp dp _ hT.p hdp).mono ?_
                    rintro e w5 ⟨rfl, hb5⟩
                    have hT5 : Tri w (w5.alloc (.cells #[.float .f64 0, .int .i64 0] 29)) bp gp dp bq gq dq ba ga da := hT.still ((But.of_below hb5).alloc _)
                    go_wp2_with fail
                    refine (first_some bq gq dq _ hT5.q hdq).mono ?_
                    rintro e w6 ⟨rfl, hb6⟩
                    generalize hye : dq[0]! = y at *
                    have hz6 : w5.heap.size < w6.heap.size := by have := hb6.size; simp at this; omega
                    have cx0 : w6.cell? ⟨w5.heap.size, 0, none⟩ = some (.float .f64 0) := by rw [hb6.cell (p := ⟨w5.heap.size, 0, none⟩) (by simp)]; simp
                    have cx1 : w6.cell? ⟨w5.heap.size, 1, none⟩ = some (.int .i64 0) := by rw [hb6.cell (p := ⟨w5.heap.size, 1, none⟩) (by simp)]; simp
                    have hT6 : Tri w (w6.alloc (.cells #[.float .f64 y.b, .int .i64 y.v] 29)) bp gp dp bq gq dq ba ga da := hT5.still ((But.of_below hb6).alloc _)
                    clear hT hT5 hb5 hb6
                    go_wp2_with fail
                    clear cx0 cx1 hz6
                    refine (take_some bq gq dq _ hT6.q hdq).mono ?_
                    rw [hye]
                    rintro e w8 ⟨rfl, d', hH8, hp8, hb8⟩
                    have hT8 := (hT6.rot.turn hH8 hb8 (.inl rfl)).rot.rot
                    have hT8a : Tri w (w8.alloc (.cells #[.float .f64 y.b, .int .i64 y.v] 29)) _ _ _ _ _ _ _ _ _ := hT8.still ((But.refl _ _).alloc _)
                    have la := hT8.a.lts
                    clear hT6 hH8 hb8
                    go_wp2_with fail
                    refine (take_some ba ga da _ hT8a.a hda).mono ?_
                    rw [← HZ ()]
                    rintro e w9 ⟨rfl, da', hH9, hp9, hb9⟩
                    have hT9 := (hT8a.rot.rot.turn hH9 hb9 (.inl rfl)).rot
                    have hz9 : w8.heap.size < w9.heap.size := by have := hb9.size; simp at this; omega
                    have hnS : ¬ (w8.heap.size = ba ∨ w8.heap.size = ga) := by omega
                    have cz0 : w9.cell? ⟨w8.heap.size, 0, none⟩ = some (.float .f64 y.b) := by rw [hb9.cell (p := ⟨w8.heap.size, 0, none⟩) (by simp) hnS]; simp
                    have cz1 : w9.cell? ⟨w8.heap.size, 1, none⟩ = some (.int .i64 y.v) := by rw [hb9.cell (p := ⟨w8.heap.size, 1, none⟩) (by simp) hnS]; simp
                    have hT9a : Tri w (w9.alloc (.cells #[.float .f64 y.b, .int .i64 y.v] 29)) _ _ _ _ _ _ _ _ _ := hT9.still ((But.refl _ _).alloc _)
                    have hperm9 : da'.toList.Perm (dp.toList ++ d'.toList) := by
                      refine List.Perm.cons_inv (a := y) ?_
                      exact hp9.symm.trans (hperm.trans ((hp8.append_left _).trans List.perm_middle))
                    have hms : da'.size < da.size := by have := hp9.length_eq; simp at this; omega
                    have HM : Hid (∀ _ : Unit, sizeAt ba (w9.alloc (.cells #[.float .f64 y.b, .int .i64 y.v] 29)) < sizeAt ba wr) := fun _ => by rw [hT9a.a.sizeAt, HSA ()]; exact hms
                    clear hT8 hT8a hT9 hH9 hb9 hp8 hp9 hms la
                    go_wp2_with fail
                    refine (icmp_any y.b y.b y.v y.v _ y.ok.1 y.ok.1).mono ?_
                    rw [cmpN_refl]
                    rintro e w10 ⟨rfl, hw10⟩
                    have hbx : But (fun _ => False) (w9.alloc (.cells #[.float .f64 y.b, .int .i64 y.v] 29)) w10 := by rw [hw10]; exact ((But.refl _ _).alloc _).alloc _
                    have hT10 := hT9a.still hbx
                    have HM2 : Hid (∀ _ : Unit, sizeAt ba w10 < sizeAt ba wr) := fun _ => by rw [hT10.a.sizeAt, ← hT9a.a.sizeAt]; exact HM ()
                    clear hT9a hbx hw10 cz0 cz1 hz9
                    go_wp2
                    go_roundw
                    case rel => exact ⟨dp, d', da', hT10, hperm9⟩
                    case measure => exact HM2 ()
                  · by_cases hdq : dq.size = 0
                    · replace hdp := size_pos_of hdp
                      have hzw : dp[0]! = da[0]! := by
                        refine least_eq (L := dp.toList ++ dq.toList) ?_ (hperm.mem_iff.1 (first_mem hda)) ?_ (fun z hz => hT.a.first z (hperm.mem_iff.2 hz))
                        · exact List.mem_append.2 (.inl (first_mem hdp))
                        · intro z hz
                          rcases List.mem_append.1 hz with hz | hz
                          · exact hT.p.first z hz
                          · rw [toList_nil hdq] at hz; cases hz
                      have hcn := count_any ba ga da wr hT.a
                      have HZ : Hid (∀ _ : Unit, dp[0]! = da[0]!) := fun _ => hzw
                      clear hzw
                      refine hcn.mono ?_
                      rintro e w4 ⟨rfl, hw4⟩
                      replace hw4 := hw4.symm
                      subst hw4
                      clear hcn
                      go_wp2_with fail
                      refine (first_some bp gp dp _ hT.p hdp).mono ?_
                      rintro e w5 ⟨rfl, hb5⟩
                      generalize hxe : dp[0]! = x at *
                      have hT5 : Tri w (w5.alloc (.cells #[.float .f64 x.b, .int .i64 x.v] 29)) bp gp dp bq gq dq ba ga da := hT.still ((But.of_below hb5).alloc _)
                      go_wp2_with fail
                      refine (first_none bq gq dq _ hT5.q hdq).mono ?_
                      rintro e w6 ⟨rfl, hb6⟩
                      have hz6 : w5.heap.size < w6.heap.size := by have := hb6.size; simp at this; omega
                      have cx0 : w6.cell? ⟨w5.heap.size, 0, none⟩ = some (.float .f64 x.b) := by rw [hb6.cell (p := ⟨w5.heap.size, 0, none⟩) (by simp)]; simp
                      have cx1 : w6.cell? ⟨w5.heap.size, 1, none⟩ = some (.int .i64 x.v) := by rw [hb6.cell (p := ⟨w5.heap.size, 1, none⟩) (by simp)]; simp
                      have hT6 : Tri w (w6.alloc (.cells #[.float .f64 0, .int .i64 0] 29)) bp gp dp bq gq dq ba ga da := hT5.still ((But.of_below hb6).alloc _)
                      clear hT hT5 hb5 hb6
                      go_wp2_with fail
                      clear cx0 cx1 hz6
                      refine (take_some bp gp dp _ hT6.p hdp).mono ?_
                      rw [hxe]
                      rintro e w8 ⟨rfl, d', hH8, hp8, hb8⟩
                      have hT8 := hT6.turn hH8 hb8 (.inl rfl)
                      have hT8a : Tri w (w8.alloc (.cells #[.float .f64 x.b, .int .i64 x.v] 29)) _ _ _ _ _ _ _ _ _ := hT8.still ((But.refl _ _).alloc _)
                      have la := hT8.a.lts
                      clear hT6 hH8 hb8
                      go_wp2_with fail
                      refine (take_some ba ga da _ hT8a.a hda).mono ?_
                      rw [← HZ ()]
                      rintro e w9 ⟨rfl, da', hH9, hp9, hb9⟩
                      have hT9 := (hT8a.rot.rot.turn hH9 hb9 (.inl rfl)).rot
                      have hz9 : w8.heap.size < w9.heap.size := by have := hb9.size; simp at this; omega
                      have hnS : ¬ (w8.heap.size = ba ∨ w8.heap.size = ga) := by omega
                      have cz0 : w9.cell? ⟨w8.heap.size, 0, none⟩ = some (.float .f64 x.b) := by rw [hb9.cell (p := ⟨w8.heap.size, 0, none⟩) (by simp) hnS]; simp
                      have cz1 : w9.cell? ⟨w8.heap.size, 1, none⟩ = some (.int .i64 x.v) := by rw [hb9.cell (p := ⟨w8.heap.size, 1, none⟩) (by simp) hnS]; simp
                      have hT9a : Tri w (w9.alloc (.cells #[.float .f64 x.b, .int .i64 x.v] 29)) _ _ _ _ _ _ _ _ _ := hT9.still ((But.refl _ _).alloc _)
                      have hperm9 : da'.toList.Perm (d'.toList ++ dq.toList) := by
                        refine List.Perm.cons_inv (a := x) ?_
                        exact hp9.symm.trans (hperm.trans (hp8.append_right _))
                      have hms : da'.size < da.size := by have := hp9.length_eq; simp at this; omega
                      have HM : Hid (∀ _ : Unit, sizeAt ba (w9.alloc (.cells #[.float .f64 x.b, .int .i64 x.v] 29)) < sizeAt ba wr) := fun _ => by rw [hT9a.a.sizeAt, HSA ()]; exact hms
                      clear hT8 hT8a hT9 hH9 hb9 hp8 hp9 hms la
                      go_wp2_with fail
                      refine (icmp_any x.b x.b x.v x.v _ x.ok.1 x.ok.1).mono ?_
                      rw [cmpN_refl]
                      rintro e w10 ⟨rfl, hw10⟩
                      have hbx : But (fun _ => False) (w9.alloc (.cells #[.float .f64 x.b, .int .i64 x.v] 29)) w10 := by rw [hw10]; exact ((But.refl _ _).alloc _).alloc _
                      have hT10 := hT9a.still hbx
                      have HM2 : Hid (∀ _ : Unit, sizeAt ba w10 < sizeAt ba wr) := fun _ => by rw [hT10.a.sizeAt, ← hT9a.a.sizeAt]; exact HM ()
                      clear hT9a hbx hw10 cz0 cz1 hz9
                      go_wp2
                      go_roundw
                      case rel => exact ⟨d', dq, da', hT10, hperm9⟩
                      case measure => exact HM2 ()
                    · replace hdp := size_pos_of hdp
                      replace hdq := size_pos_of hdq
                      cases hcmp : dq[0]!.lt dp[0]!
                      · skip
                        have hzw : dp[0]! = da[0]! := by
                          refine least_eq (L := dp.toList ++ dq.toList) ?_ (hperm.mem_iff.1 (first_mem hda)) ?_ (fun z hz => hT.a.first z (hperm.mem_iff.2 hz))
                          · exact List.mem_append.2 (.inl (first_mem hdp))
                          · intro z hz
                            rcases List.mem_append.1 hz with hz | hz
                            · exact hT.p.first z hz
                            · exact KI.swo.ntrans _ _ _ (hT.q.first z hz) hcmp
                        have hcn := count_any ba ga da wr hT.a
                        have HZ : Hid (∀ _ : Unit, dp[0]! = da[0]!) := fun _ => hzw
                        clear hzw
                        have HC : Hid (∀ _ : Unit, dq[0]!.lt dp[0]! = false) := fun _ => hcmp
                        clear hcmp
                        refine hcn.mono ?_
                        rintro e w4 ⟨rfl, hw4⟩
                        replace hw4 := hw4.symm
                        subst hw4
                        clear hcn
                        go_wp2_with fail
                        refine (first_some bp gp dp _ hT.p hdp).mono ?_
                        rintro e w5 ⟨rfl, hb5⟩
                        generalize hxe : dp[0]! = x at *
                        have hT5 : Tri w (w5.alloc (.cells #[.float .f64 x.b, .int .i64 x.v] 29)) bp gp dp bq gq dq ba ga da := hT.still ((But.of_below hb5).alloc _)
                        go_wp2_with fail
                        refine (first_some bq gq dq _ hT5.q hdq).mono ?_
                        rintro e w6 ⟨rfl, hb6⟩
                        generalize hye : dq[0]! = y at *
                        have hz6 : w5.heap.size < w6.heap.size := by have := hb6.size; simp at this; omega
                        have cx0 : w6.cell? ⟨w5.heap.size, 0, none⟩ = some (.float .f64 x.b) := by rw [hb6.cell (p := ⟨w5.heap.size, 0, none⟩) (by simp)]; simp
                        have cx1 : w6.cell? ⟨w5.heap.size, 1, none⟩ = some (.int .i64 x.v) := by rw [hb6.cell (p := ⟨w5.heap.size, 1, none⟩) (by simp)]; simp
                        have hT6 : Tri w (w6.alloc (.cells #[.float .f64 y.b, .int .i64 y.v] 29)) bp gp dp bq gq dq ba ga da := hT5.still ((But.of_below hb6).alloc _)
                        clear hT hT5 hb5 hb6
                        go_wp2_with fail
                        refine (icmp_any y.b x.b y.v x.v _ y.ok.1 x.ok.1).mono ?_
                        rintro e w7 ⟨rfl, hw7⟩
                        have hT7 : Tri w w7 bp gp dp bq gq dq ba ga da := by rw [hw7]; exact hT6.still (((But.refl _ _).alloc _).alloc _)
                        have hcc : decide (cmpN y.b y.v x.b x.v < 0) = false := HC ()
                        generalize cmpN y.b y.v x.b x.v = cc at *
                        clear hT6 hw7 HC cx0 cx1 hz6
                        go_wp2_with fail
                        refine (take_some bp gp dp _ hT7.p hdp).mono ?_
                        rw [hxe]
                        rintro e w8 ⟨rfl, d', hH8, hp8, hb8⟩
                        have hT8 := hT7.turn hH8 hb8 (.inl rfl)
                        have hT8a : Tri w (w8.alloc (.cells #[.float .f64 x.b, .int .i64 x.v] 29)) _ _ _ _ _ _ _ _ _ := hT8.still ((But.refl _ _).alloc _)
                        have la := hT8.a.lts
                        clear hT7 hH8 hb8
                        go_wp2_with fail
                        refine (take_some ba ga da _ hT8a.a hda).mono ?_
                        rw [← HZ ()]
                        rintro e w9 ⟨rfl, da', hH9, hp9, hb9⟩
                        have hT9 := (hT8a.rot.rot.turn hH9 hb9 (.inl rfl)).rot
                        have hz9 : w8.heap.size < w9.heap.size := by have := hb9.size; simp at this; omega
                        have hnS : ¬ (w8.heap.size = ba ∨ w8.heap.size = ga) := by omega
                        have cz0 : w9.cell? ⟨w8.heap.size, 0, none⟩ = some (.float .f64 x.b) := by rw [hb9.cell (p := ⟨w8.heap.size, 0, none⟩) (by simp) hnS]; simp
                        have cz1 : w9.cell? ⟨w8.heap.size, 1, none⟩ = some (.int .i64 x.v) := by rw [hb9.cell (p := ⟨w8.heap.size, 1, none⟩) (by simp) hnS]; simp
                        have hT9a : Tri w (w9.alloc (.cells #[.float .f64 x.b, .int .i64 x.v] 29)) _ _ _ _ _ _ _ _ _ := hT9.still ((But.refl _ _).alloc _)
                        have hperm9 : da'.toList.Perm (d'.toList ++ dq.toList) := by
                          refine List.Perm.cons_inv (a := x) ?_
                          exact hp9.symm.trans (hperm.trans (hp8.append_right _))
                        have hms : da'.size < da.size := by have := hp9.length_eq; simp at this; omega
                        have HM : Hid (∀ _ : Unit, sizeAt ba (w9.alloc (.cells #[.float .f64 x.b, .int .i64 x.v] 29)) < sizeAt ba wr) := fun _ => by rw [hT9a.a.sizeAt, HSA ()]; exact hms
                        clear hT8 hT8a hT9 hH9 hb9 hp8 hp9 hms la
                        go_wp2_with fail
                        refine (icmp_any x.b x.b x.v x.v _ x.ok.1 x.ok.1).mono ?_
                        rw [cmpN_refl]
                        rintro e w10 ⟨rfl, hw10⟩
                        have hbx : But (fun _ => False) (w9.alloc (.cells #[.float .f64 x.b, .int .i64 x.v] 29)) w10 := by rw [hw10]; exact ((But.refl _ _).alloc _).alloc _
                        have hT10 := hT9a.still hbx
                        have HM2 : Hid (∀ _ : Unit, sizeAt ba w10 < sizeAt ba wr) := fun _ => by rw [hT10.a.sizeAt, ← hT9a.a.sizeAt]; exact HM ()
                        clear hT9a hbx hw10 cz0 cz1 hz9
                        go_wp2
                        go_roundw
                        case rel => exact ⟨d', dq, da', hT10, hperm9⟩
                        case measure => exact HM2 ()
                      · skip
                        have hzw : dq[0]! = da[0]! := by
                          refine least_eq (L := dp.toList ++ dq.toList) ?_ (hperm.mem_iff.1 (first_mem hda)) ?_ (fun z hz => hT.a.first z (hperm.mem_iff.2 hz))
                          · exact List.mem_append.2 (.inr (first_mem hdq))
                          · intro z hz
                            rcases List.mem_append.1 hz with hz | hz
                            · exact KI.swo.ntrans _ _ _ (hT.p.first z hz) (Hp.asym KI.swo hcmp)
                            · exact hT.q.first z hz
                        have hcn := count_any ba ga da wr hT.a
                        have HZ : Hid (∀ _ : Unit, dq[0]! = da[0]!) := fun _ => hzw
                        clear hzw
                        have HC : Hid (∀ _ : Unit, dq[0]!.lt dp[0]! = true) := fun _ => hcmp
                        clear hcmp
                        refine hcn.mono ?_
                        rintro e w4 ⟨rfl, hw4⟩
                        replace hw4 := hw4.symm
                        subst hw4
                        clear hcn
                        go_wp2_with fail
                        refine (first_some bp gp dp _ hT.p hdp).mono ?_
                        rintro e w5 ⟨rfl, hb5⟩
                        generalize hxe : dp[0]! = x at *
                        have hT5 : Tri w (w5.alloc (.cells #[.float .f64 x.b, .int .i64 x.v] 29)) bp gp dp bq gq dq ba ga da := hT.still ((But.of_below hb5).alloc _)
                        go_wp2_with fail
                        refine (first_some bq gq dq _ hT5.q hdq).mono ?_
                        rintro e w6 ⟨rfl, hb6⟩
                        generalize hye : dq[0]! = y at *
                        have hz6 : w5.heap.size < w6.heap.size := by have := hb6.size; simp at this; omega
                        have cx0 : w6.cell? ⟨w5.heap.size, 0, none⟩ = some (.float .f64 x.b) := by rw [hb6.cell (p := ⟨w5.heap.size, 0, none⟩) (by simp)]; simp
                        have cx1 : w6.cell? ⟨w5.heap.size, 1, none⟩ = some (.int .i64 x.v) := by rw [hb6.cell (p := ⟨w5.heap.size, 1, none⟩) (by simp)]; simp
                        have hT6 : Tri w (w6.alloc (.cells #[.float .f64 y.b, .int .i64 y.v] 29)) bp gp dp bq gq dq ba ga da := hT5.still ((But.of_below hb6).alloc _)
                        clear hT hT5 hb5 hb6
                        go_wp2_with fail
                        refine (icmp_any y.b x.b y.v x.v _ y.ok.1 x.ok.1).mono ?_
                        rintro e w7 ⟨rfl, hw7⟩
                        have hT7 : Tri w w7 bp gp dp bq gq dq ba ga da := by rw [hw7]; exact hT6.still (((But.refl _ _).alloc _).alloc _)
                        have hcc : decide (cmpN y.b y.v x.b x.v < 0) = true := HC ()
                        replace hcc := of_decide_eq_true hcc
                        generalize cmpN y.b y.v x.b x.v = cc at *
                        clear hT6 hw7 HC cx0 cx1 hz6
                        go_wp2_with fail
                        refine (take_some bq gq dq _ hT7.q hdq).mono ?_
                        rw [hye]
                        rintro e w8 ⟨rfl, d', hH8, hp8, hb8⟩
                        have hT8 := (hT7.rot.turn hH8 hb8 (.inl rfl)).rot.rot
                        have hT8a : Tri w (w8.alloc (.cells #[.float .f64 y.b, .int .i64 y.v] 29)) _ _ _ _ _ _ _ _ _ := hT8.still ((But.refl _ _).alloc _)
                        have la := hT8.a.lts
                        clear hT7 hH8 hb8
                        go_wp2_with fail
                        refine (take_some ba ga da _ hT8a.a hda).mono ?_
                        rw [← HZ ()]
                        rintro e w9 ⟨rfl, da', hH9, hp9, hb9⟩
                        have hT9 := (hT8a.rot.rot.turn hH9 hb9 (.inl rfl)).rot
                        have hz9 : w8.heap.size < w9.heap.size := by have := hb9.size; simp at this; omega
                        have hnS : ¬ (w8.heap.size = ba ∨ w8.heap.size = ga) := by omega
                        have cz0 : w9.cell? ⟨w8.heap.size, 0, none⟩ = some (.float .f64 y.b) := by rw [hb9.cell (p := ⟨w8.heap.size, 0, none⟩) (by simp) hnS]; simp
                        have cz1 : w9.cell? ⟨w8.heap.size, 1, none⟩ = some (.int .i64 y.v) := by rw [hb9.cell (p := ⟨w8.heap.size, 1, none⟩) (by simp) hnS]; simp
                        have hT9a : Tri w (w9.alloc (.cells #[.float .f64 y.b, .int .i64 y.v] 29)) _ _ _ _ _ _ _ _ _ := hT9.still ((But.refl _ _).alloc _)
                        have hperm9 : da'.toList.Perm (dp.toList ++ d'.toList) := by
                          refine List.Perm.cons_inv (a := y) ?_
                          exact hp9.symm.trans (hperm.trans ((hp8.append_left _).trans List.perm_middle))
                        have hms : da'.size < da.size := by have := hp9.length_eq; simp at this; omega
                        have HM : Hid (∀ _ : Unit, sizeAt ba (w9.alloc (.cells #[.float .f64 y.b, .int .i64 y.v] 29)) < sizeAt ba wr) := fun _ => by rw [hT9a.a.sizeAt, HSA ()]; exact hms
                        clear hT8 hT8a hT9 hH9 hb9 hp8 hp9 hms la
                        go_wp2_with fail
                        refine (icmp_any y.b y.b y.v y.v _ y.ok.1 y.ok.1).mono ?_
                        rw [cmpN_refl]
                        rintro e w10 ⟨rfl, hw10⟩
                        have hbx : But (fun _ => False) (w9.alloc (.cells #[.float .f64 y.b, .int .i64 y.v] 29)) w10 := by rw [hw10]; exact ((But.refl _ _).alloc _).alloc _
                        have hT10 := hT9a.still hbx
                        have HM2 : Hid (∀ _ : Unit, sizeAt ba w10 < sizeAt ba wr) := fun _ => by rw [hT10.a.sizeAt, ← hT9a.a.sizeAt]; exact HM ()
                        clear hT9a hbx hw10 cz0 cz1 hz9
                        go_wp2
                        go_roundw
                        case rel => exact ⟨dp, d', da', hT10, hperm9⟩
                        case measure => exact HM2 ()
end Go.Proofs.Ythhechgjablklaa
