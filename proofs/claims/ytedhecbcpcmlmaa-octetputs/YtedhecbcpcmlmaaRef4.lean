/-
  The reference's sum, walked.
-/
import Derived.Test.YtedhecbcpcmlmaaRef3
namespace Go.Proofs.Ytedhecbcpcmlmaa
open Go.RowKit

/-- The powers lie in block p. -/
def PowAt (w : World) (p : Nat) : Prop := ∀ j, j < 15 → w.cell? ⟨p, j, none⟩ = some (.int .i64 ((pows.getD j 0 : Nat) : Int))
theorem PowAt.set {w : World} {p g j : Nat} (h : PowAt w p) (hne : g ≠ p) (v : Value) : PowAt (w.setCell ⟨g, j, none⟩ v) p := fun i hi => by
  rw [World.cell?_setCell_other _ _ _ _ (by intro e; injection e with e1 _ _; exact hne e1)]; exact h i hi

set_option maxRecDepth 10000 in
set_option maxHeartbeats 2000000 in
theorem refSum_any (s : ByteArray) (w : World) (hs : s.size ≤ 1300) :
    Calls Try.prog 44 #[.string s] w fun e w' => e = .returned (.int .u32 (Crc.more 0 s.data.toList : Nat)) ∧ Reg.Keeps w w' := by
  have Hm := hid (Crc.more0_moves s.data.toList)
  have hB0 := Oct.leB_lt s.data.toList
  have hl : s.data.toList.length = s.size := by simp
  rw [hl, show (256 : Nat) ^ s.size = 2 ^ (8 * s.size) by rw [show (256 : Nat) = 2 ^ 8 from rfl, ← Nat.pow_mul]] at hB0
  rw [hl] at Hm
  have hba := fun w => bits_any s w hs
  generalize Crc.more 0 s.data.toList = R at *
  generalize Oct.leB s.data.toList = B0 at *
  have Hba := hid hba
  clear hba hl
  obtain ⟨n, hn⟩ : ∃ n, n = 8 * s.size := ⟨_, rfl⟩
  have hn2 : n ≤ 10400 := by omega
  rw [← hn] at Hm hB0 Hba
  clear hn
  go_enter Try.func44, Try.ntmps44
  go_wp2_with fail
  refine (Hba.out _).mono ?_
  clear Hba
  rintro e w1 ⟨v1, rfl, ho1, hk1, hlo1, hnn1⟩
  obtain ⟨g1, cap1, rfl, has1⟩ : ∃ g cap, v1 = .slice (some ⟨g, 0, none⟩) n cap ∧ Sl.Has w1 g cap (bitC n B0) := by
    rcases ho1 with ⟨h, _⟩ | ⟨g, cap, h, h2⟩
    · exact absurd h hnn1
    · rw [bitC_length] at h; exact ⟨g, cap, h, h2⟩
  have hg1 : w.heap.size ≤ g1 := hlo1 g1 rfl
  clear ho1 hlo1 hnn1
  go_wp2
  go_loopw [3, 5] (fun b i wr => ∃ (k : Nat), k ≤ 32 ∧ i = .int .i64 (k : Int) ∧ Sl.Own wr b (bitC (n + k) B0) ∧ Below w.heap.size w wr ∧ (∀ q, b.ownBlock = some q → w.heap.size ≤ q) ∧ b ≠ .slice none 0 0) (fun _ i _ => 32 - (intOf i).toNat)
  case atStart => exact ⟨0, by omega, rfl, .inr ⟨g1, cap1, by rw [bitC_length]; rfl, has1⟩, hk1, fun q hq => by simp [Value.ownBlock] at hq; omega, by simp⟩
  case round =>
    obtain ⟨k, hk, rfl, ho, hbl, hlo, hnn⟩ := hrel
    have Hlo := hid hlo
    have Hnn := hid hnn
    have Hbl := hid hbl
    clear hlo hnn hbl has1 hk1
    by_cases hlt : k < 32
    · have hbl2 := bitC_length (n + k) B0
      go_wp2_with (at_builtin; refine Sl.wpList_append plainI _ rfl (.tmp 21) (.tmp 22) 68 rfl u3 _ rfl (ho.alloc _) _ rfl 1 [_] (Sl.src_one _ 68 3 Try.underlying68 _ rfl 3) (.inl Nat.one_pos) ?hb ?_; (case hb => rw [hbl2]; omega); intro v' w' ho' hf' hn')
      go_roundw
      case rel =>
        refine ⟨k + 1, by omega, by go_num, ?_, ?_, ?_, hn'⟩
        · have e := bitC_snoc (n + k) B0 0 (Nat.lt_of_lt_of_le hB0 (Nat.pow_le_pow_right (by omega) (by omega))) (by omega)
          rw [Nat.zero_mul] at e
          rw [← Nat.add_assoc]
          exact (show bitC (n + k) B0 ++ [.int .i64 0] = bitC (n + k + 1) B0 from e) ▸ ho'
        · refine (Hbl.out.alloc Hbl.out.size _).trans (hf'.below (by have := Hbl.out.size; simp; omega) Hlo.out)
        · intro q hq
          rcases hf'.lies q hq with h | h
          · exact Hlo.out q h
          · have := Hbl.out.size; simp at h; omega
      case measure => simp [intOf]; omega
    · have hk2 : k = 32 := by omega
      subst hk2
      obtain ⟨g, cap, hu, has⟩ : ∃ g cap, u3 = .slice (some ⟨g, 0, none⟩) (n + 32) cap ∧ Sl.Has wr g cap (bitC (n + 32) B0) := by
        rcases ho with ⟨h, _⟩ | ⟨g, cap, h, h2⟩
        · exact absurd h Hnn.out
        · rw [bitC_length] at h; exact ⟨g, cap, h, h2⟩
      subst hu
      have hg : w.heap.size ≤ g := Hlo.out g rfl
      clear ho Hlo Hnn
      go_wp2
      go_loopw [6] (fun i wr => ∃ (k : Nat), k ≤ 32 ∧ i = .int .i64 (k : Int) ∧ Sl.Has wr g cap (bitC (n + 32) (B0 ^^^ (2 ^ k - 1))) ∧ Below w.heap.size w wr) (fun i _ => 32 - (intOf i).toNat)
      case atStart => exact ⟨0, by omega, rfl, by simpa using has, Hbl.out⟩
      case round =>
        obtain ⟨k, hk, rfl, has2, hbl2⟩ := hrel
        have Hb2 := hid hbl2
        clear hbl2 has Hbl
        by_cases hlt : k < 32
        · have hcl := has2.holds k _ (bitC_at (n + 32) _ k (by omega))
          have hfz := (has2.there k (by have := has2.le; rw [bitC_length] at this; omega)).2
          have hle := bit_le (B0 ^^^ (2 ^ k - 1)) k
          have Hn := hid (ones_next B0 k)
          have Hfl := hid (fun (x : Int) (hx : x = ((1 - (B0 ^^^ (2 ^ k - 1)) / 2 ^ k % 2 : Nat) : Int)) => has2.flip (j := k) (by omega) hx)
          generalize (B0 ^^^ (2 ^ k - 1)) / 2 ^ k % 2 = bt at *
          have i1 : (k : Int) < (n : Int) + 32 := by omega
          go_wp2
          go_roundw
          case rel =>
            refine ⟨k + 1, by omega, by go_num, ?_, Hb2.out.setCell hg _⟩
            rw [← Hn.out]
            exact Hfl.out _ (by omega)
          case measure => simp [intOf]; omega
        · have hk3 : k = 32 := by omega
          subst hk3
          rw [show (2 : Nat) ^ 32 - 1 = 4294967295 from rfl] at has2
          generalize hB1 : B0 ^^^ 4294967295 = B1 at *
          have hB1l : B1 < 2 ^ (n + 32) := by
            rw [← hB1]
            refine Nat.xor_lt_two_pow (Nat.lt_of_lt_of_le hB0 (Nat.pow_le_pow_right (by omega) (by omega))) ?_
            exact Nat.lt_of_lt_of_le (by decide) (Nat.pow_le_pow_right (n := 2) (by omega) (show 32 ≤ n + 32 by omega))
          have HB1 := hid (fun _ : Unit => hB1l)
          clear hB1 hB1l hB0
          have hpa : PowAt (wr.alloc (Obj.cells #[Value.int IntKind.i64 32, Value.int IntKind.i64 26, Value.int IntKind.i64 23, Value.int IntKind.i64 22, Value.int IntKind.i64 16, Value.int IntKind.i64 12, Value.int IntKind.i64 11, Value.int IntKind.i64 10, Value.int IntKind.i64 8, Value.int IntKind.i64 7, Value.int IntKind.i64 5, Value.int IntKind.i64 4, Value.int IntKind.i64 2, Value.int IntKind.i64 1, Value.int IntKind.i64 0] 3)) wr.heap.size := by
            intro j hj
            rw [World.cell?_alloc_new]
            have : ∀ j : Fin 15, #[Value.int IntKind.i64 32, Value.int IntKind.i64 26, Value.int IntKind.i64 23, Value.int IntKind.i64 22, Value.int IntKind.i64 16, Value.int IntKind.i64 12, Value.int IntKind.i64 11, Value.int IntKind.i64 10, Value.int IntKind.i64 8, Value.int IntKind.i64 7, Value.int IntKind.i64 5, Value.int IntKind.i64 4, Value.int IntKind.i64 2, Value.int IntKind.i64 1, Value.int IntKind.i64 0][j.val]? = some (.int .i64 ((pows.getD j 0 : Nat) : Int)) := by
              intro j
              match j with
              | 0 | 1 | 2 | 3 | 4 | 5 | 6 | 7 | 8 | 9 | 10 | 11 | 12 | 13 | 14 => rfl
            exact this ⟨j, hj⟩
          have Hpa := hid hpa
          clear hpa
          go_wp2
          generalize hw4 : wr.alloc (Obj.cells #[Value.int IntKind.i64 32, Value.int IntKind.i64 26, Value.int IntKind.i64 23, Value.int IntKind.i64 22, Value.int IntKind.i64 16, Value.int IntKind.i64 12, Value.int IntKind.i64 11, Value.int IntKind.i64 10, Value.int IntKind.i64 8, Value.int IntKind.i64 7, Value.int IntKind.i64 5, Value.int IntKind.i64 4, Value.int IntKind.i64 2, Value.int IntKind.i64 1, Value.int IntKind.i64 0] 3) = w4 at *
          have hk4 : Reg.Keeps wr w4 := by rw [← hw4]; exact (Reg.Keeps.refl _).alloc _
          clear hw4
          have has4 : Sl.Has w4 g cap (bitC (n + 32) B1) := has2.block (hk4.block g has2.lt) hk4.size
          have hb4 : Below w.heap.size w w4 := Hb2.out.trans (hk4.mono Hb2.out.size)
          have hgp : g ≠ wr.heap.size := Nat.ne_of_lt has2.lt
          generalize wr.heap.size = pb at *
          clear has2 Hb2 hk4
          go_loopw [8] (fun i wr => ∃ (k : Nat), k ≤ n ∧ i = .int .i64 (k : Int) ∧ Sl.Has wr g cap (bitC (n + 32) (2 ^ k * Crc.moves k B1)) ∧ PowAt wr pb ∧ Below w.heap.size w wr) (fun i _ => n - (intOf i).toNat)
          case atStart => exact ⟨0, by omega, rfl, by simpa [Crc.moves] using has4, Hpa.out, hb4⟩
          case round =>
            obtain ⟨k, hk, rfl, has5, hp5, hbl5⟩ := hrel
            have Hp5 := hid hp5
            have Hb5 := hid hbl5
            clear hp5 hbl5 has4 Hpa hb4
            by_cases hlt : k < n
            · have hcl := has5.holds k _ (bitC_at (n + 32) _ k (by omega))
              rw [shift_bit] at hcl
              have Hst := hid (Crc.div_step k (Crc.moves k B1))
              have Hsuc : Hid (Crc.moves (k + 1) B1 = Crc.mstep (Crc.moves k B1)) := rfl
              generalize Crc.moves k B1 = V at *
              have i1 : (k : Int) < (n : Int) + 32 := by omega
              by_cases hbit : V % 2 = 1
              · have hb1 : ((((V % 2 : Nat) : Int)) == 0) = false := by rw [hbit]; rfl
                rw [if_pos hbit] at Hst
                have Hs2 := hid (fun _ : Unit => Hst.out)
                clear Hst
                have has6 : Sl.Has wr g cap (bitC (n + 32) ((2 ^ k * V) ^^^ 2 ^ k * pre 0)) := by
                  rw [show pre 0 = 0 from rfl, Nat.mul_zero, Nat.xor_zero]; exact has5
                generalize 2 ^ k * V = B at *
                go_wp2
                go_loopw [49] (fun jv wr => ∃ (j : Nat), j ≤ 15 ∧ jv = .int .i64 (j : Int) ∧ Sl.Has wr g cap (bitC (n + 32) (B ^^^ 2 ^ k * pre j)) ∧ PowAt wr pb ∧ Below w.heap.size w wr) (fun jv _ => 15 - (intOf jv).toNat)
                case atStart => exact ⟨0, by omega, rfl, has6, Hp5.out, Hb5.out⟩
                case round =>
                  obtain ⟨j, hj, rfl, has7, hp7, hbl7⟩ := hrel
                  have Hp7 := hid hp7
                  have Hb7 := hid hbl7
                  clear hp7 hbl7 has5 has6 Hp5 Hb5 hcl
                  by_cases hj15 : j < 15
                  · have hpc := Hp7.out j hj15
                    have hple := pows_le j hj15
                    have Hnx := hid (fun _ : Unit => lay_next B k j hj15)
                    generalize pows.getD j 0 = p at *
                    obtain ⟨q, hq⟩ : ∃ q, q = k + 32 - p := ⟨_, rfl⟩
                    have hqi : (k : Int) + 32 - (p : Int) = (q : Int) := by omega
                    rw [← hq] at Hnx
                    have hqn : q < n + 32 := by omega
                    have i2 : (q : Int) < (n : Int) + 32 := by omega
                    clear hq
                    have hcl := has7.holds q _ (bitC_at (n + 32) _ q hqn)
                    have hfz := (has7.there q (by have := has7.le; rw [bitC_length] at this; omega)).2
                    have hle := bit_le (B ^^^ 2 ^ k * pre j) q
                    have Hfl := hid (fun (x : Int) (hx : x = ((1 - (B ^^^ 2 ^ k * pre j) / 2 ^ q % 2 : Nat) : Int)) => has7.flip (j := q) hqn hx)
                    generalize (B ^^^ 2 ^ k * pre j) / 2 ^ q % 2 = bt at *
                    go_wp2
                    go_roundw
                    case rel =>
                      refine ⟨j + 1, by omega, by go_num, ?_, Hp7.out.set hgp _, Hb7.out.setCell hg _⟩
                      rw [← Hnx.out ()]
                      exact Hfl.out _ (by omega)
                    case measure => simp [intOf]; omega
                  · have hj2 : j = 15 := by omega
                    subst hj2
                    rw [pre_last, Hs2.out (), ← Hsuc.out] at has7
                    go_wp2
                    go_roundw
                    case rel => exact ⟨k + 1, by omega, by go_num, has7, Hp7.out, Hb7.out⟩
                    case measure => simp [intOf]; omega
              · have hb0 : V % 2 = 0 := by omega
                have hb1 : ((((V % 2 : Nat) : Int)) == 0) = true := by rw [hb0]; rfl
                rw [if_neg hbit] at Hst
                go_wp2
                go_roundw
                case rel => exact ⟨k + 1, by omega, by go_num, by rw [Hsuc.out, ← Hst.out]; exact has5, Hp5.out, Hb5.out⟩
                case measure => simp [intOf]; omega
            · have hkn : n = k := by omega
              subst hkn
              have hV := Crc.sum_lt n B1 (HB1.out ())
              generalize Crc.moves n B1 = V at *
              have hC : 4294967295 - V < 4294967296 := by omega
              have Hnb := hid (not_bit V)
              generalize hCe : 4294967295 - V = C at *
              clear hCe
              go_wp2
              go_loopw [11, 12] (fun t i wr => ∃ (q : Nat), q ≤ 32 ∧ i = .int .i64 ((q : Int) - 1) ∧ t = .int .u32 ((C / 2 ^ q : Nat) : Int) ∧ Sl.Has wr g cap (bitC (n + 32) (2 ^ n * V)) ∧ Below w.heap.size w wr) (fun _ i _ => (intOf i + 1).toNat)
              case atStart => exact ⟨32, by omega, rfl, val_int (by rw [Nat.div_eq_of_lt (show C < 2 ^ 32 from hC)]; rfl), has5, Hb5.out⟩
              case round =>
                obtain ⟨q, hq, rfl, rfl, has8, hbl8⟩ := hrel
                have Hb8 := hid hbl8
                clear hbl8 has5 Hp5 Hb5
                cases q with
                | zero =>
                  rw [show ((0 : Nat) : Int) - 1 = -1 from rfl, Nat.pow_zero, Nat.div_one]
                  go_wp2
                  go_ret
                  exact ⟨ret_int (by rw [Hm.out]), Hb8.out⟩
                | succ q =>
                  rw [show ((q + 1 : Nat) : Int) - 1 = (q : Int) by omega]
                  have hcl := has8.holds (n + q) _ (bitC_at (n + 32) _ (n + q) (by omega))
                  rw [shift_bits] at hcl
                  have hle : V / 2 ^ q % 2 ≤ 1 := by omega
                  have Hn2 := hid (Hnb.out q hV (by omega))
                  have Hup := hid (up_bit C q)
                  have hx : C / 2 ^ (q + 1) ≤ 2147483647 := by
                    have : C / 2 ^ (q + 1) ≤ C / 2 ^ 1 := Nat.div_le_div_left (Nat.pow_le_pow_right (by omega) (by omega)) (by omega)
                    omega
                  generalize C / 2 ^ (q + 1) = sm at *
                  generalize V / 2 ^ q % 2 = bt at *
                  have i2 : (n : Int) + (q : Int) < (n : Int) + 32 := by omega
                  go_wp2
                  go_roundw
                  case rel => exact ⟨q, by omega, rfl, val_int (by rw [← Hup.out, ← Hn2.out]; omega), has8, Hb8.out⟩
                  case measure => simp [intOf]
end Go.Proofs.Ytedhecbcpcmlmaa
