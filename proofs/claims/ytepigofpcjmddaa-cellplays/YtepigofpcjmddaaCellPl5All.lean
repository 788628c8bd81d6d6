/-
  Layer 5's law of any calls: its calls on both memories: contract.
  Layer 5: what the laws ask first: contract.
  Layer 5's law of any calls: the call returns true.
-/
import Derived.Test.YtepigofpcjmddaaAt5All
import Derived.Test.YtepigofpcjmddaaSetSelfAll
import Derived.Test.YtepigofpcjmddaaFits5All
import Derived.Test.YtepigofpcjmddaaTail
import Derived.Deep.CutBlock
import Derived.Test.YtepigofpcjmddaaOwn5All
namespace Go.Proofs.Ytepigofpcjmddaa
open Go.RowKit Go.Sort

def cp12R (_b6 : Nat) (b8 : Nat) (n : Nat) (rc : Nat) (n' : Nat) (m : Nat) (ln : Nat) (cp : Nat) (lo : Nat) (Q : Nat → Prop) (ra : Option Addr) (s : Option Addr) (kq : Int) (vr : Int) (vm : Int) (mb : Int) (xx : Int) (can : Bool) (RL : List KI) (ps' : List RP) : List (Value → Nat → World → Prop) :=
  [fun v _ _ => v = .agg #[.slice ra n rc],
   fun v _ _ => v = .int .i64 kq,
   fun v _ _ => v = .int .i64 vr,
   fun v _ _ => v = .int .i64 mb,
   fun v _ _ => v = .int .i64 vm,
   fun v _ _ => v = .pointer (some ⟨b8, 3, none⟩),
   fun v _ _ => v = .agg #[.int .i64 xx, .slice s ln cp],
   fun v x w => 0 ≤ x ∧ ∃ sa sc, v = .agg #[.int .i64 xx, .slice sa m sc] ∧ (∀ j, inB sa j → lo ≤ j) ∧ (x = 0 → SlAt 2 w sa sc m (flatR RL)),
   fun v x w => 0 ≤ x ∧ ∃ ra' rc', v = .tuple #[.agg #[.slice ra' n' rc'], .bool can] ∧ (x = 0 → RefIn Q w ra' rc' ps'),
   fun v x w => 0 ≤ x ∧ ∃ ra' rc', v = .tuple #[.agg #[.slice ra' n' rc'], .bool can] ∧ (x = 0 → RefIn Q w ra' rc' ps'),
   fun v x w => 0 ≤ x ∧ ∃ ra' rc', v = .agg #[.slice ra' n' rc'] ∧ (x = 0 → RefIn Q w ra' rc' ps'),
   fun v _ _ => v = .bool can,
   fun _ _ _ => True,
   fun v _ _ => v = .bool can]
theorem cp12R_kept (b6 : Nat) (b8 : Nat) (n : Nat) (rc : Nat) (n' : Nat) (m : Nat) (ln : Nat) (cp : Nat) (lo : Nat) (Q : Nat → Prop) (ra : Option Addr) (s : Option Addr) (kq : Int) (vr : Int) (vm : Int) (mb : Int) (xx : Int) (can : Bool) (RL : List KI) (ps' : List RP) : Reg.GAllKept (Reg.PPres (fun j => j = b6)) (cp12R b6 b8 n rc n' m ln cp lo Q ra s kq vr vm mb xx can RL ps') :=
  ⟨(fun _ _ _ _ _ _ h => h), (fun _ _ _ _ _ _ h => h), (fun _ _ _ _ _ _ h => h), (fun _ _ _ _ _ _ h => h), (fun _ _ _ _ _ _ h => h), (fun _ _ _ _ _ _ h => h), (fun _ _ _ _ _ _ h => h), (fun v x w x' w' hp h => by obtain ⟨h0, sa, sc, h1, hf, h2⟩ := h; exact ⟨Nat.zero_le _, sa, sc, h1, hf, fun e => by have hx := hp.1; have hxe : x' = x := (by omega); exact (h2 (by omega)).below (hp.2.1 hxe)⟩), (fun v x w x' w' hp h => by obtain ⟨h0, ra', rc', h1, h2⟩ := h; exact ⟨Nat.zero_le _, ra', rc', h1, fun e => by have hx := hp.1; have hxe : x' = x := (by omega); exact (h2 (by omega)).below (hp.2.1 hxe)⟩), (fun v x w x' w' hp h => by obtain ⟨h0, ra', rc', h1, h2⟩ := h; exact ⟨Nat.zero_le _, ra', rc', h1, fun e => by have hx := hp.1; have hxe : x' = x := (by omega); exact (h2 (by omega)).below (hp.2.1 hxe)⟩), (fun v x w x' w' hp h => by obtain ⟨h0, ra', rc', h1, h2⟩ := h; exact ⟨Nat.zero_le _, ra', rc', h1, fun e => by have hx := hp.1; have hxe : x' = x := (by omega); exact (h2 (by omega)).below (hp.2.1 hxe)⟩), (fun _ _ _ _ _ _ h => h), (fun _ _ _ _ _ _ _ => trivial), (fun _ _ _ _ _ _ h => h), trivial⟩
def cp15R (_b6 : Nat) (b8 : Nat) (n : Nat) (rc : Nat) (n' : Nat) (m : Nat) (ln : Nat) (cp : Nat) (lo : Nat) (Q : Nat → Prop) (ra : Option Addr) (s : Option Addr) (kq : Int) (vr : Int) (xx : Int) (can : Bool) (RL : List KI) (ps' : List RP) : List (Value → Nat → World → Prop) :=
  [fun v _ _ => v = .agg #[.slice ra n rc],
   fun v _ _ => v = .int .i64 kq,
   fun v _ _ => v = .int .i64 vr,
   fun v _ _ => v = .pointer (some ⟨b8, 3, none⟩),
   fun v _ _ => v = .agg #[.int .i64 xx, .slice s ln cp],
   fun v x w => 0 ≤ x ∧ ∃ sa sc, v = .agg #[.int .i64 xx, .slice sa m sc] ∧ (∀ j, inB sa j → lo ≤ j) ∧ (x = 0 → SlAt 2 w sa sc m (flatR RL)),
   fun v x w => 0 ≤ x ∧ ∃ ra' rc', v = .tuple #[.agg #[.slice ra' n' rc'], .bool can] ∧ (x = 0 → RefIn Q w ra' rc' ps'),
   fun v x w => 0 ≤ x ∧ ∃ ra' rc', v = .tuple #[.agg #[.slice ra' n' rc'], .bool can] ∧ (x = 0 → RefIn Q w ra' rc' ps'),
   fun v x w => 0 ≤ x ∧ ∃ ra' rc', v = .agg #[.slice ra' n' rc'] ∧ (x = 0 → RefIn Q w ra' rc' ps'),
   fun v _ _ => v = .bool can,
   fun _ _ _ => True,
   fun v _ _ => v = .bool can]
theorem cp15R_kept (b6 : Nat) (b8 : Nat) (n : Nat) (rc : Nat) (n' : Nat) (m : Nat) (ln : Nat) (cp : Nat) (lo : Nat) (Q : Nat → Prop) (ra : Option Addr) (s : Option Addr) (kq : Int) (vr : Int) (xx : Int) (can : Bool) (RL : List KI) (ps' : List RP) : Reg.GAllKept (Reg.PPres (fun j => j = b6)) (cp15R b6 b8 n rc n' m ln cp lo Q ra s kq vr xx can RL ps') :=
  ⟨(fun _ _ _ _ _ _ h => h), (fun _ _ _ _ _ _ h => h), (fun _ _ _ _ _ _ h => h), (fun _ _ _ _ _ _ h => h), (fun _ _ _ _ _ _ h => h), (fun v x w x' w' hp h => by obtain ⟨h0, sa, sc, h1, hf, h2⟩ := h; exact ⟨Nat.zero_le _, sa, sc, h1, hf, fun e => by have hx := hp.1; have hxe : x' = x := (by omega); exact (h2 (by omega)).below (hp.2.1 hxe)⟩), (fun v x w x' w' hp h => by obtain ⟨h0, ra', rc', h1, h2⟩ := h; exact ⟨Nat.zero_le _, ra', rc', h1, fun e => by have hx := hp.1; have hxe : x' = x := (by omega); exact (h2 (by omega)).below (hp.2.1 hxe)⟩), (fun v x w x' w' hp h => by obtain ⟨h0, ra', rc', h1, h2⟩ := h; exact ⟨Nat.zero_le _, ra', rc', h1, fun e => by have hx := hp.1; have hxe : x' = x := (by omega); exact (h2 (by omega)).below (hp.2.1 hxe)⟩), (fun v x w x' w' hp h => by obtain ⟨h0, ra', rc', h1, h2⟩ := h; exact ⟨Nat.zero_le _, ra', rc', h1, fun e => by have hx := hp.1; have hxe : x' = x := (by omega); exact (h2 (by omega)).below (hp.2.1 hxe)⟩), (fun _ _ _ _ _ _ h => h), (fun _ _ _ _ _ _ _ => trivial), (fun _ _ _ _ _ _ h => h), trivial⟩
def cp21R (b : Nat) (b6 : Nat) (n : Nat) (rc : Nat) (ra : Option Addr) (ml : Int) (can : Bool) : List (Value → World → Prop) :=
  [fun v _ => v = .bool can,
   fun v _ => v = .bool can,
   fun v _ => v = .bool false,
   fun v _ => v = .bool false,
   fun v _ => v = .pointer (some ⟨b, 0, none⟩),
   fun v _ => v = .int .i64 ml,
   fun v _ => v = .agg #[.slice ra n rc],
   fun v _ => v = .int .i64 ml,
   fun v _ => v = .bool false,
   fun v _ => v = .bool false,
   fun v _ => v = .bool false,
   fun v _ => v = .pointer (some ⟨b, 0, none⟩),
   fun v _ => v = .int .u64 (n : Int),
   fun v _ => v = .pointer (some ⟨b6, 0, none⟩),
   fun v _ => v = .slice ra n rc,
   fun v _ => v = .int .i64 (n : Int),
   fun v _ => v = .int .u64 (n : Int),
   fun v _ => v = .bool false,
   fun v _ => v = .bool false]
theorem cp21R_kept (b : Nat) (b6 : Nat) (n : Nat) (rc : Nat) (ra : Option Addr) (ml : Int) (can : Bool) : Reg.AllKept Reg.Keeps (cp21R b b6 n rc ra ml can) :=
  ⟨(fun _ _ _ _ h => h), (fun _ _ _ _ h => h), (fun _ _ _ _ h => h), (fun _ _ _ _ h => h), (fun _ _ _ _ h => h), (fun _ _ _ _ h => h), (fun _ _ _ _ h => h), (fun _ _ _ _ h => h), (fun _ _ _ _ h => h), (fun _ _ _ _ h => h), (fun _ _ _ _ h => h), (fun _ _ _ _ h => h), (fun _ _ _ _ h => h), (fun _ _ _ _ h => h), (fun _ _ _ _ h => h), (fun _ _ _ _ h => h), (fun _ _ _ _ h => h), (fun _ _ _ _ h => h), (fun _ _ _ _ h => h), trivial⟩

/-- Between two calls. -/
def PLr (w : World) (k b3 b6 b : Nat) (O : Nat → Prop) (M : Mem) (ra : Option Addr) (rc : Nat) (ps : List RP) (wr : World) : Prop :=
  (MemAt wr b O M ∧ (∀ k, O k → w.heap.size ≤ k) ∧ ¬ O b6 ∧ ¬ O b3) ∧ (BoxAt wr b6 [.slice ra ps.length rc] ∧ BoxAt wr b3 [.slice none 0 0] ∧ b3 ≠ b6 ∧ w.heap.size ≤ b3 ∧ w.heap.size ≤ b6) ∧ RefIn (fun j => ¬ O j) wr ra rc ps ∧ Rel M ps ∧ M.clock ≤ k ∧ Below w.heap.size w wr
/-- How the calls end. -/
def PlayEnd (w : World) (e : Ending) (w' : World) : Prop :=
  ∃ b O M ra rc ps, e = .returned (.tuple #[.pointer (some ⟨b, 0, none⟩), .agg #[.slice ra ps.length rc], .bool true]) ∧ MemAt w' b O M ∧ RefAt w' ra rc ps ∧ Rel M ps ∧ ps.length ≤ 40 ∧ Below w.heap.size w w'
theorem PLr.to {w : World} {k b3 b6 b : Nat} {O : Nat → Prop} {M : Mem} {ra : Option Addr} {rc : Nat} {ps : List RP} {wr w' : World} (h : PLr w k b3 b6 b O M ra rc ps wr) (hb : Below wr.heap.size wr w') : PLr w k b3 b6 b O M ra rc ps w' := by
  obtain ⟨⟨t1, t2, t3, t4⟩, ⟨t5, t6, t7, t8, t9⟩, t10, t11, t12, t13⟩ := h
  exact ⟨⟨t1.below hb, t2, t3, t4⟩, ⟨t5.below hb, t6.below hb, t7, t8, t9⟩, t10.below hb, t11, t12, t13.trans (hb.mono t13.size)⟩
theorem rread_le (ps : List RP) (i : Int) : ∀ k, (rread ps i k).1 ≤ k
  | 0 => Nat.le_refl _
  | k + 1 => by
    unfold rread
    split
    · exact Nat.le_refl _
    · exact Nat.le_succ_of_le (rread_le ps i k)
theorem u64_wrap5 (n : Int) : IntKind.u64.wrap n = n % 18446744073709551616 := by simp [IntKind.wrap, IntKind.signed, IntKind.bits]

set_option maxRecDepth 20000 in
set_option maxHeartbeats 8000000 in
theorem play5_any (a : Option Addr) (n cap : Nat) (w : World) (h : Acts w a n) :
    Calls Try.prog 21 #[.slice a n cap] w (PlayEnd w) := by
  have HA := hidq h
  clear h
  obtain ⟨b3, hb3⟩ : ∃ b3, w.heap.size = b3 := ⟨_, rfl⟩
  obtain ⟨W1, hW1⟩ : ∃ W1, w.alloc (.cells #[.slice none 0 0] 53) = W1 := ⟨_, rfl⟩
  have HB1 := hidq (show Below w.heap.size w W1 ∧ BoxAt W1 b3 [.slice none 0 0] ∧ W1.heap.size = b3 + 1 from by
    rw [← hW1, ← hb3]
    exact ⟨(Below.refl _ _).alloc (Nat.le_refl _) _, BoxAt.new w _ _, by simp⟩)
  go_enter Try.func21, Try.ntmps21
  go_wp2_with fail
  try rw [hW1]
  try rw [hb3]
  refine (new5_any W1).mono ?_
  rintro e w2 ⟨rfl, hM2, hb2⟩
  obtain ⟨b, hb⟩ : ∃ b, W1.heap.size = b := ⟨_, rfl⟩
  obtain ⟨b6, hb6⟩ : ∃ b6, w2.heap.size = b6 := ⟨_, rfl⟩
  obtain ⟨W3, hW3⟩ : ∃ W3, w2.alloc (.cells #[.slice none 0 0] 53) = W3 := ⟨_, rfl⟩
  have HT := hidq (show PLr w 0 b3 b6 b (fun k => k = b) Mem.empty none 0 [] W3 from by
    obtain ⟨z1, z2, z3⟩ := HB1.out
    have z4 := hb2.size
    have z5 := hM2.lt W1.heap.size rfl
    have hba : Below w2.heap.size w2 W3 := by rw [← hW3]; exact (Below.refl _ _).alloc (Nat.le_refl _) _
    have hx : BoxAt W3 b6 [.slice none 0 0] := by rw [← hW3, ← hb6]; exact BoxAt.new w2 _ _
    rw [← hb]
    exact ⟨⟨hM2.below hba, fun k hk => by omega, by omega, by omega⟩, ⟨hx, (z2.below hb2).below hba, by omega, by omega, by omega⟩, RefIn.nil W3, Rel.empty, Nat.le_refl _, (z1.trans (hb2.mono z1.size)).trans (hba.mono (by omega))⟩)
  have hx3 := (HT.out.2.1.1.get 0 _ rfl)
  have hz0 := hx3.1
  have hz1 := hx3.2
  have hself : W3.setCell ⟨b6, 0, none⟩ (.slice none 0 0) = W3 := setCell_self W3 _ _ hz0
  clear hM2 hb2 HB1 hx3
  go_wp2_with fail
  try rw [hW3]
  try rw [hb6]
  try rw [hb]
  clear hW3 hb6 hb hW1 hb3 hself hz0 hz1
  go_loopw [5, 7] (fun s5 s7 wr => ∃ (i b : Nat) (O : Nat → Prop) (M : Mem) (ra : Option Addr) (rc : Nat) (ps : List RP), s5 = .pointer (some ⟨b, 0, none⟩) ∧ s7 = .int .i64 (i : Int) ∧ i ≤ n ∧ i ≤ 40 ∧ Hid (PLr w i b3 b6 b O M ra rc ps wr)) (fun _ s7 _ => 40 - (intOf s7).toNat)
  case atStart => exact ⟨0, b, _, _, _, _, _, rfl, rfl, Nat.zero_le _, Nat.zero_le _, HT⟩
  case round =>
    clear HT
    obtain ⟨i, b, O, M, ra, rc, ps, rfl, rfl, hi1, hi2, HT⟩ := hrel
    by_cases hlt : i < n ∧ i < 40
    · obtain ⟨hlt1, hlt2⟩ := hlt
      have hltI1 : (i : Int) < (n : Int) := by omega
      have hltI2 : (i : Int) < 40 := by omega
      obtain ⟨ga, off, rfl, hgl, kd, ka, mo, xx, s, ln, cp, K, V, ⟨c0, c1, c2⟩, ⟨c3, c4⟩, hka, hRw⟩ := HA.out i hlt1
      have HC := hidq (And.intro hgl hRw)
      have hBe := HT.out.2.2.2.2.2
      have m0 := (hBe.cell (p := ⟨ga, off + i * 5, none⟩) hgl).trans c0
      have m1 := (hBe.cell (p := ⟨ga, off + i * 5 + 1, none⟩) hgl).trans c1
      have m2 := (hBe.cell (p := ⟨ga, off + i * 5 + 2, none⟩) hgl).trans c2
      have m3 := (hBe.cell (p := ⟨ga, off + i * 5 + 3, none⟩) hgl).trans c3
      have m4 := (hBe.cell (p := ⟨ga, off + i * 5 + 4, none⟩) hgl).trans c4
      clear c0 c1 c2 c3 c4 hRw hgl hBe
      obtain ⟨b8, hb8⟩ : ∃ b8, wr.heap.size = b8 := ⟨_, rfl⟩
      obtain ⟨w3, hw3⟩ : ∃ w3, wr.alloc (.cells #[.int .i64 kd, .int .i64 ka, .int .i64 mo, .int .i64 xx, .slice s ln cp] 74) = w3 := ⟨_, rfl⟩
      have H3 := hidq (show Below wr.heap.size wr w3 ∧ BoxAt w3 b8 [.int .i64 kd, .int .i64 ka, .int .i64 mo, .int .i64 xx, .slice s ln cp] ∧ wr.heap.size ≤ b8 from by
        rw [← hw3, ← hb8]
        exact ⟨(Below.refl _ _).alloc (Nat.le_refl _) _, BoxAt.new wr _ _, Nat.le_refl _⟩)
      obtain ⟨kq, hkq⟩ : ∃ kq, at5 ka = kq := ⟨_, rfl⟩
      have HAT := hidq (at5_any ka w3)
      rw [hkq] at HAT
      go_upto_region 6 with fail
      try rw [hw3]
      try rw [hb8]
      clear hw3 hb8 hkq m0 m1 m2 m3 m4
      have m1 := (H3.out.2.1.get 1 _ rfl).1
      go_wp2_with fail
      refine HAT.out.mono ?_
      rintro e w4 ⟨rfl, hw4⟩
      have hw4' := hw4.symm
      subst hw4'
      clear hw4 HAT m1
      obtain ⟨pn, hpn⟩ : ∃ pn, ps.length = pn := ⟨_, rfl⟩
      have hpi : pn ≤ 40 := by have h1 := HT.out.2.2.2.1.clk; have h2 := HT.out.2.2.2.2.1; omega
      obtain ⟨vr, hvr⟩ : ∃ vr : Int, ((rread ps kq pn).1 : Int) = vr := ⟨_, rfl⟩
      have HVR := hidq (show (M.look kq).ver = vr ∧ 0 ≤ vr ∧ vr ≤ 100 from by
        have h1 := HT.out.2.2.2.1.at_ kq
        rw [hpn] at h1
        have h2 := rread_le ps kq pn
        rw [h1]
        exact ⟨hvr, by omega, by omega⟩)
      have hRd := hidq (rread5_any ra rc pn ps kq w3 (HT.out.2.2.1.at.below H3.out.1) hpn (by omega))
      rw [hvr] at hRd
      have HB6 := hidq (show BoxAt w3 b6 [.slice ra pn rc] from by have := HT.out.2.1.1; rw [hpn] at this; exact this.below H3.out.1)
      have hz6 := (HB6.out.get 0 _ rfl).1
      have HPN := hidq hpn
      clear hpn hvr
      go_wp2_with fail
      refine hRd.out.mono ?_
      rintro e w4 ⟨s4, c4, rfl, _, hb4⟩
      obtain ⟨b11, hb11⟩ : ∃ b11, w4.heap.size = b11 := ⟨_, rfl⟩
      obtain ⟨kl, hkl⟩ : ∃ kl, (rread ps kq pn).2.L.length = kl := ⟨_, rfl⟩
      obtain ⟨kx, hkx⟩ : ∃ kx, (rread ps kq pn).2.x = kx := ⟨_, rfl⟩
      rw [hkl, hkx]
      obtain ⟨w5, hw5⟩ : ∃ w5, w4.alloc (.cells #[.int .i64 kx, .slice s4 kl c4] 58) = w5 := ⟨_, rfl⟩
      have H5 := hidq (show Below wr.heap.size wr w5 ∧ BoxAt w5 b8 [.int .i64 kd, .int .i64 ka, .int .i64 mo, .int .i64 xx, .slice s ln cp] ∧ BoxAt w5 b6 [.slice ra pn rc] from by
        have hba : Below w4.heap.size w4 w5 := by rw [← hw5]; exact (Below.refl _ _).alloc (Nat.le_refl _) _
        have hb35 : Below w3.heap.size w3 w5 := hb4.trans (hba.mono hb4.size)
        exact ⟨H3.out.1.trans (hb35.mono H3.out.1.size), H3.out.2.1.below hb35, HB6.out.below hb35⟩)
      have HS8 := hidq H3.out.2.2
      have m80 := (H5.out.2.1.get 0 _ rfl).1
      have m82 := (H5.out.2.1.get 2 _ rfl).1
      clear hb4 hz6 H3 hRd HB6
      obtain ⟨r, hr⟩ : ∃ r : Int, (bits .and .i64 kd 255).tmod 3 = r := ⟨_, rfl⟩
      have hr3 : r = 0 ∨ r = 1 ∨ r = 2 := by
        rw [i64_and255] at hr
        rw [Int.tmod_eq_emod_of_nonneg (by omega)] at hr
        omega
      go_upto_block 2 with fail
      try rw [hw5]
      try rw [hb11]
      clear hw5 hb11 hkl hkx hr
      go_cut [5, 12, 13] from 18 to 118 (fun s5 s12 s13 wx => ∃ (b : Nat) (O : Nat → Prop) (M : Mem) (ra : Option Addr) (rc : Nat) (ps : List RP) (can : Bool), s5 = .pointer (some ⟨b, 0, none⟩) ∧ s12 = .bool can ∧ s13 = .bool can ∧ Hid (PLr w (i + 1) b3 b6 b O M ra rc ps wx))
      case first =>
        have HPL := hidq (PLr.to HT.out H5.out.1)
        have hb86 : ¬ b8 = b6 := by have h1 := HT.out.2.1.1.lt; have h2 := HS8.out; omega
        have hO5 : ∀ k, O k → k < w5.heap.size ∧ ¬ k = b6 := fun k hk => ⟨HPL.out.1.1.lt k hk, fun e => HPL.out.1.2.2.1 (e ▸ hk)⟩
        obtain ⟨m, hm⟩ : ∃ m, min ln 6 = m := ⟨_, rfl⟩
        have hm6 : m ≤ 6 := by omega
        obtain ⟨RL, hRL⟩ : ∃ RL, rawL K V m = RL := ⟨_, rfl⟩
        have HRL := hidq (show RL.length = m from by rw [← hRL]; simp [rawL])
        have hlm : (kts RL).length = m := by rw [kts_length, HRL.out]
        have hlmH := hidq hlm
        have HTO := hidq (fun W (hW : Below w5.heap.size w5 W) => (show Calls Try.prog 55 #[.agg #[.int .i64 xx, .slice s ln cp]] W fun e w' => ∃ a' c', e = .returned (.agg #[.int .i64 xx, .slice a' m c']) ∧ SlAt 2 w' a' c' m (flatR RL) ∧ (∀ j, inB a' j → W.heap.size ≤ j) ∧ Below W.heap.size W w' from by
          have hz := HPL.out.2.2.2.2.2
          refine (told5_any xx s ln cp K V W (HC.out.2.below (hz.trans (hW.mono hz.size)))).mono ?_
          rintro e w' ⟨m', a', c', hm', rfl, hS', hf', hb'⟩
          rw [hm] at hm'
          subst hm'
          rw [hRL] at hS'
          exact ⟨a', c', rfl, hS', hf', hb'⟩))
        have HOW := hidq (fun W (hW : Below w.heap.size w W) => (show Calls Try.prog 28 #[.agg #[.int .i64 xx, .slice s ln cp]] W fun e w' => ∃ a' c', e = .returned (.agg #[.int .i64 xx, .slice a' m c']) ∧ SlAt 2 w' a' c' m (flatI (kts RL)) ∧ (∀ j, inB a' j → W.heap.size ≤ j) ∧ Below W.heap.size W w' from by
          refine (own5_any xx s ln cp K V W (HC.out.2.below hW)).mono ?_
          rintro e w' ⟨m', a', c', hm', rfl, hS', hf', hb'⟩
          rw [hm] at hm'
          subst hm'
          rw [hRL] at hS'
          exact ⟨a', c', rfl, hS', hf', hb'⟩))
        have FB := hidq (fun W (hW : Below w5.heap.size w5 W) => ((H5.out.2.2.below hW).get 0 _ rfl).1)
        have FZ := hidq (fun W (hW : Below w5.heap.size w5 W) => ((H5.out.2.2.below hW).get 0 _ rfl).2)
        have HBX := hidq (fun W (hW : Below w5.heap.size w5 W) => H5.out.2.2.below hW)
        have FA := hidq (fun W (hW : But (fun j => j = b6) w5 W) => (show W.cell? ⟨b8, 3, none⟩ = some (.int .i64 xx) ∧ W.cell? ⟨b8, 4, none⟩ = some (.slice s ln cp) from ⟨((H5.out.2.1.but hW hb86).get 3 _ rfl).1, ((H5.out.2.1.but hW hb86).get 4 _ rfl).1⟩))
        obtain ⟨Q, hQ⟩ : ∃ Q : Nat → Prop, Q = fun j => ¬ O j := ⟨_, rfl⟩
        have HQE := hidq hQ
        obtain ⟨lo, hlo⟩ : ∃ lo, w5.heap.size = lo := ⟨_, rfl⟩
        have HLO := hidq hlo
        have HO5 := hidq hO5
        clear hm hRL hQ hlo hO5 hlm
        rcases hr3 with rfl | rfl | rfl
        · obtain ⟨mb, hmb⟩ : ∃ mb, bits .and .i64 mo 1 = mb := ⟨_, rfl⟩
          have hmb1 : 0 ≤ mb ∧ mb ≤ 1 := by rw [← hmb, i64_and1]; omega
          go_upto_region 12 with fail
          clear hmb m80 m82
          obtain ⟨vm, hvm⟩ : ∃ vm, vr + mb = vm := ⟨_, rfl⟩
          have hvb := HVR.out.2
          have HVMH := hidq (show IntKind.i64.wrap (vr + mb) = vm from by simp [IntKind.wrap, IntKind.signed, IntKind.bits]; omega)
          have HVM : wrap64 (vr + mb) = vm := by unfold wrap64; omega
          have HCV : IntKind.u64.wrap vm = vm := by rw [u64_wrap5]; omega
          clear hvm hvb
          obtain ⟨ps', hps⟩ : ∃ ps', rput ps kq vm xx RL = ps' := ⟨_, rfl⟩
          obtain ⟨n', hn'⟩ : ∃ n', ps'.length = n' := ⟨_, rfl⟩
          obtain ⟨can, hcan⟩ : ∃ can, rcan ps kq vm = can := ⟨_, rfl⟩
          have HWR := hidq (fun W (hW : Below w5.heap.size w5 W) sa sc (hS : SlAt 2 W sa sc m (flatR RL)) (hf : ∀ j, inB sa j → lo ≤ j) => (show Calls Try.prog 54 #[.agg #[.slice ra pn rc], .int .i64 kq, .int .i64 vm, .agg #[.int .i64 xx, .slice sa m sc]] W fun e w' => ∃ ra' rc', e = .returned (.tuple #[.agg #[.slice ra' n' rc'], .bool can]) ∧ RefIn Q w' ra' rc' ps' ∧ Below W.heap.size W w' from by
            have := rwrite5_all Q ra rc pn ps kq vm xx sa m sc RL W (by rw [HQE.out]; exact HPL.out.2.2.1.below hW) (fun j hj => by rw [HQE.out]; intro hO; have h1 := hf j hj; have h2 := (HO5.out j hO).1; have h3 := HLO.out; omega) (fun j hj => by rw [HQE.out]; intro hO; have h2 := (HO5.out j hO).1; have h3 := hW.size; omega) HPN.out (by omega) hS HRL.out
            rw [hps, hn', hcan] at this
            exact this))
          have HDF := hidq (And.intro hps (And.intro hn' hcan))
          clear hps hn' hcan
          have HF : ∀ (x : Nat) (w w' : World), Below w.heap.size w w' → ((x = 0 → Below w5.heap.size w5 w) ∧ (x = 1 → ∃ ra' rc', BoxAt w b6 [.slice ra' n' rc'] ∧ RefIn Q w ra' rc' ps')) → ((x = 0 → Below w5.heap.size w5 w') ∧ (x = 1 → ∃ ra' rc', BoxAt w' b6 [.slice ra' n' rc'] ∧ RefIn Q w' ra' rc' ps')) :=
            fun _ _ _ hB h => ⟨fun e => (h.1 e).trans (hB.mono (h.1 e).size), fun e => by obtain ⟨g1, c1, h1, h2⟩ := h.2 e; exact ⟨g1, c1, h1.below hB, h2.below hB⟩⟩
          refine Reg.wp_region_ghost (Reg.gofList (cp12R b6 b8 pn rc n' m ln cp lo Q ra s kq vr vm mb xx can RL ps')) (Reg.PPres (fun j => j = b6)) (Reg.PInv [12] (fun j => j = b6) w5 (fun x w => (x = 0 → Below w5.heap.size w5 w) ∧ (x = 1 → ∃ ra' rc', BoxAt w b6 [.slice ra' n' rc'] ∧ RefIn Q w ra' rc' ps'))) 0 (by kernel_rfl) (by kernel_rfl) (Reg.GAllKept.at _ (cp12R_kept b6 b8 pn rc n' m ln cp lo Q ra s kq vr vm mb xx can RL ps')) (Reg.PInv.start 14 ⟨fun _ => below_drewN (Below.refl _ _) 1, fun e => by cases e⟩) ⟨?_, ?_, ?_, ?_, ?_, ?_, ?_, ?_, ?_, ?_, ?_, ?_, ?_, ?_, trivial⟩ ?_
          · refine Reg.GStepAt.plain (i := 0) rfl ?_
            intro x L ev w hI hk hp hA
            have e6 : ev (.tmp 6) = .pointer (some ⟨b6, 0, none⟩) := hA.oldNone 6 (by kernel_rfl)
            have hcc := hA.const
            have NL := Reg.not_listed hA 0 12 _ rfl ⟨0, .phase⟩ (by simp) rfl hk
            clear hA hp
            have hx0 : x = 0 := hI.1.trans (Reg.cnt_zero1 NL)
            have hBw := hI.2.2.1 hx0
            have f0 := FB.out w hBw
            refine Reg.out_value (v := .agg #[.slice ra pn rc]) ?_ ⟨x, rfl, Reg.PPres.refl _ _ _, Reg.PInv.light HF hI 0 (by decide) (Below.refl _ _)⟩
            clear hI hBw hx0 NL
            go_simp
          · refine Reg.GStepAt.plain (i := 1) rfl ?_
            intro x L ev w hI hk hp hA
            have e9 : ev (.tmp 9) = .int .i64 kq := hA.oldNone 9 (by kernel_rfl)
            have hcc := hA.const
            clear hA hp
            refine Reg.out_value (v := .int .i64 kq) ?_ ⟨x, rfl, Reg.PPres.refl _ _ _, Reg.PInv.light HF hI 1 (by decide) (Below.refl _ _)⟩
            go_simp
          · refine Reg.GStepAt.plain (i := 2) rfl ?_
            intro x L ev w hI hk hp hA
            have e10 : ev (.tmp 10) = .int .i64 vr := hA.oldNone 10 (by kernel_rfl)
            have hcc := hA.const
            clear hA hp
            refine Reg.out_value (v := .int .i64 vr) ?_ ⟨x, rfl, Reg.PPres.refl _ _ _, Reg.PInv.light HF hI 2 (by decide) (Below.refl _ _)⟩
            go_simp
          · refine Reg.GStepAt.plain (i := 3) rfl ?_
            intro x L ev w hI hk hp hA
            have e14 : ev (.tmp 14) = .int .i64 mb := hA.oldNone 14 (by kernel_rfl)
            have hcc := hA.const
            clear hA hp
            refine Reg.out_value (v := .int .i64 mb) ?_ ⟨x, rfl, Reg.PPres.refl _ _ _, Reg.PInv.light HF hI 3 (by decide) (Below.refl _ _)⟩
            go_simp
          · refine Reg.GStepAt.plain (i := 4) rfl ?_
            intro x L ev w hI hk hp hA
            have e53 : ev (.tmp 53) = .int .i64 vr := hA.val 2 _ 53 rfl (hp ⟨2, .data⟩ (by simp) rfl) rfl
            have e54 : ev (.tmp 54) = .int .i64 mb := hA.val 3 _ 54 rfl (hp ⟨3, .data⟩ (by simp) rfl) rfl
            have hcc := hA.const
            clear hA hp
            refine Reg.out_value (v := .int .i64 vm) ?_ ⟨x, rfl, Reg.PPres.refl _ _ _, Reg.PInv.light HF hI 4 (by decide) (Below.refl _ _)⟩
            (go_simp; exact HVMH.out)
          · refine Reg.GStepAt.plain (i := 5) rfl ?_
            intro x L ev w hI hk hp hA
            have e8 : ev (.tmp 8) = .pointer (some ⟨b8, 0, none⟩) := hA.oldNone 8 (by kernel_rfl)
            have hcc := hA.const
            clear hA hp
            refine Reg.out_value (v := .pointer (some ⟨b8, 3, none⟩)) ?_ ⟨x, rfl, Reg.PPres.refl _ _ _, Reg.PInv.light HF hI 5 (by decide) (Below.refl _ _)⟩
            go_simp
          · refine Reg.GStepAt.plain (i := 6) rfl ?_
            intro x L ev w hI hk hp hA
            have e56 : ev (.tmp 56) = .pointer (some ⟨b8, 3, none⟩) := hA.val 5 _ 56 rfl (hp ⟨5, .data⟩ (by simp) rfl) rfl
            have hcc := hA.const
            clear hA hp
            obtain ⟨f3, f4⟩ := FA.out w hI.2.1
            refine Reg.out_value (v := .agg #[.int .i64 xx, .slice s ln cp]) ?_ ⟨x, rfl, Reg.PPres.refl _ _ _, Reg.PInv.light HF hI 6 (by decide) (Below.refl _ _)⟩
            go_simp
          · refine Reg.GStepAt.plain (i := 7) rfl ?_
            intro x L ev w hI hk hp hA
            have e57 : ev (.tmp 57) = .agg #[.int .i64 xx, .slice s ln cp] := hA.val 6 _ 57 rfl (hp ⟨6, .data⟩ (by simp) rfl) rfl
            have hcc := hA.const
            have hcf := hA.func
            have NL := Reg.not_listed hA 7 12 _ rfl ⟨7, .phase⟩ (by simp) rfl hk
            clear hA hp
            have hx0 : x = 0 := hI.1.trans (Reg.cnt_zero1 NL)
            have hBw := hI.2.2.1 hx0
            refine Reg.out_call (f := 55) (args := #[.agg #[.int .i64 xx, .slice s ln cp]]) (w0 := w) ?_ ?_
            · go_simp
            refine (HTO.out w hBw).mono ?_
            rintro e w' ⟨sa, sc, rfl, hS', hf', hb'⟩
            exact ⟨_, rfl, x, ⟨Nat.zero_le _, sa, sc, rfl, fun j hj => (by have h1 := hBw.size; have h2 := HLO.out; have h3 := hf' j hj; omega), fun _ => hS'⟩, Reg.PPres.light hb', Reg.PInv.light HF hI 7 (by decide) hb'⟩
          · refine Reg.GStepAt.plain (i := 8) rfl ?_
            intro x L ev w hI hk hp hA
            have e51 : ev (.tmp 51) = .agg #[.slice ra pn rc] := hA.val 0 _ 51 rfl (hp ⟨0, .data⟩ (by simp) rfl) rfl
            have e52 : ev (.tmp 52) = .int .i64 kq := hA.val 1 _ 52 rfl (hp ⟨1, .data⟩ (by simp) rfl) rfl
            have e55 : ev (.tmp 55) = .int .i64 vm := hA.val 4 _ 55 rfl (hp ⟨4, .data⟩ (by simp) rfl) rfl
            have e58 : (fun v x w => 0 ≤ x ∧ ∃ sa sc, v = .agg #[.int .i64 xx, .slice sa m sc] ∧ (∀ j, inB sa j → lo ≤ j) ∧ (x = 0 → SlAt 2 w sa sc m (flatR RL))) (ev (.tmp 58)) x w := hA.val 7 _ 58 rfl (hp ⟨7, .data⟩ (by simp) rfl) rfl
            have hcc := hA.const
            have hcf := hA.func
            have NL := Reg.not_listed hA 8 12 _ rfl ⟨8, .phase⟩ (by simp) rfl hk
            clear hA hp
            have hx0 : x = 0 := hI.1.trans (Reg.cnt_zero1 NL)
            have hBw := hI.2.2.1 hx0
            obtain ⟨_, sa, sc, e58, hf', hS'⟩ := e58
            refine Reg.out_call (f := 54) (args := #[.agg #[.slice ra pn rc], .int .i64 kq, .int .i64 vm, .agg #[.int .i64 xx, .slice sa m sc]]) (w0 := w) ?_ ?_
            · go_simp
            refine (HWR.out w hBw sa sc (hS' hx0) hf').mono ?_
            rintro e w' ⟨ra', rc', rfl, hR', hb'⟩
            exact ⟨_, rfl, x, ⟨Nat.zero_le _, ra', rc', rfl, fun _ => hR'⟩, Reg.PPres.light hb', Reg.PInv.light HF hI 8 (by decide) hb'⟩
          · refine Reg.GStepAt.plain (i := 9) rfl ?_
            intro x L ev w hI hk hp hA
            have e59 : (fun v x w => 0 ≤ x ∧ ∃ ra' rc', v = .tuple #[.agg #[.slice ra' n' rc'], .bool can] ∧ (x = 0 → RefIn Q w ra' rc' ps')) (ev (.tmp 59)) x w := hA.val 8 _ 59 rfl (hp ⟨8, .data⟩ (by simp) rfl) rfl
            have hcc := hA.const
            clear hA hp
            exact Reg.out_value rfl ⟨x, e59, Reg.PPres.refl _ _ _, Reg.PInv.light HF hI 9 (by decide) (Below.refl _ _)⟩
          · refine Reg.GStepAt.plain (i := 10) rfl ?_
            intro x L ev w hI hk hp hA
            have e50 : (fun v x w => 0 ≤ x ∧ ∃ ra' rc', v = .tuple #[.agg #[.slice ra' n' rc'], .bool can] ∧ (x = 0 → RefIn Q w ra' rc' ps')) (ev (.tmp 50)) x w := hA.val 9 _ 50 rfl (hp ⟨9, .data⟩ (by simp) rfl) rfl
            have hcc := hA.const
            clear hA hp
            obtain ⟨_, ra', rc', e50, hR'⟩ := e50
            refine Reg.out_value (v := .agg #[.slice ra' n' rc']) ?_ ⟨x, ⟨Nat.zero_le _, ra', rc', rfl, hR'⟩, Reg.PPres.refl _ _ _, Reg.PInv.light HF hI 10 (by decide) (Below.refl _ _)⟩
            clear hI hR' hk
            go_simp
          · refine Reg.GStepAt.plain (i := 11) rfl ?_
            intro x L ev w hI hk hp hA
            have e50 : (fun v x w => 0 ≤ x ∧ ∃ ra' rc', v = .tuple #[.agg #[.slice ra' n' rc'], .bool can] ∧ (x = 0 → RefIn Q w ra' rc' ps')) (ev (.tmp 50)) x w := hA.val 9 _ 50 rfl (hp ⟨9, .data⟩ (by simp) rfl) rfl
            have hcc := hA.const
            clear hA hp
            obtain ⟨_, ra', rc', e50, hR'⟩ := e50
            refine Reg.out_value (v := .bool can) ?_ ⟨x, rfl, Reg.PPres.refl _ _ _, Reg.PInv.light HF hI 11 (by decide) (Below.refl _ _)⟩
            clear hI hR' hk
            go_simp
          · refine Reg.GStepAt.plain (i := 12) rfl ?_
            intro x L ev w hI hk hp hA
            have e6 : ev (.tmp 6) = .pointer (some ⟨b6, 0, none⟩) := hA.oldNone 6 (by kernel_rfl)
            have e60 : (fun v x w => 0 ≤ x ∧ ∃ ra' rc', v = .agg #[.slice ra' n' rc'] ∧ (x = 0 → RefIn Q w ra' rc' ps')) (ev (.tmp 60)) x w := hA.val 10 _ 60 rfl (hp ⟨10, .data⟩ (by simp) rfl) rfl
            have hcc := hA.const
            clear hA hp
            have hx0 : x = 0 := hI.1.trans (Reg.cnt_zero1 (Reg.getD_true hk))
            have hBw := hI.2.2.1 hx0
            obtain ⟨_, ra', rc', e60, hR'⟩ := e60
            have f0 := FB.out w hBw
            have f1 := FZ.out w hBw
            have hbS : But (fun j => j = b6) w (w.setCell ⟨b6, 0, none⟩ (.slice ra' n' rc')) := (But.refl (fun j => j = b6) w).set1 b6 0 rfl _
            refine Reg.out_skipP (w' := w.setCell ⟨b6, 0, none⟩ (.slice ra' n' rc')) ?_ ⟨x + 1, trivial, Reg.PPres.heavy hbS, Reg.PInv.heavy hI 12 (by decide) (by simp) hk hbS ⟨fun e => by omega, fun _ => ⟨ra', rc', (HBX.out w hBw).set 0 _, (hR' hx0).aside f0 _⟩⟩⟩
            clear hI hbS hR' hBw
            go_simp
          · refine Reg.GStepAt.plain (i := 13) rfl ?_
            intro x L ev w hI hk hp hA
            have e61 : ev (.tmp 61) = .bool can := hA.val 11 _ 61 rfl (hp ⟨11, .data⟩ (by simp) rfl) rfl
            have hcc := hA.const
            clear hA hp
            refine Reg.out_value (v := .bool can) ?_ ⟨x, rfl, Reg.PPres.refl _ _ _, Reg.PInv.light HF hI 13 (by decide) (Below.refl _ _)⟩
            go_simp
          intro gx L act wz hall hI hF
          have g51 : act.eval (.tmp 51) = .agg #[.slice ra pn rc] := hF.val 0 _ 51 rfl (hall 0 (by simp)) rfl
          have g52 : act.eval (.tmp 52) = .int .i64 kq := hF.val 1 _ 52 rfl (hall 1 (by simp)) rfl
          have g53 : act.eval (.tmp 53) = .int .i64 vr := hF.val 2 _ 53 rfl (hall 2 (by simp)) rfl
          have g54 : act.eval (.tmp 54) = .int .i64 mb := hF.val 3 _ 54 rfl (hall 3 (by simp)) rfl
          have g55 : act.eval (.tmp 55) = .int .i64 vm := hF.val 4 _ 55 rfl (hall 4 (by simp)) rfl
          have g56 : act.eval (.tmp 56) = .pointer (some ⟨b8, 3, none⟩) := hF.val 5 _ 56 rfl (hall 5 (by simp)) rfl
          have g57 : act.eval (.tmp 57) = .agg #[.int .i64 xx, .slice s ln cp] := hF.val 6 _ 57 rfl (hall 6 (by simp)) rfl
          have g58 : (fun v x w => 0 ≤ x ∧ ∃ sa sc, v = .agg #[.int .i64 xx, .slice sa m sc] ∧ (∀ j, inB sa j → lo ≤ j) ∧ (x = 0 → SlAt 2 w sa sc m (flatR RL))) (act.eval (.tmp 58)) gx wz := hF.val 7 _ 58 rfl (hall 7 (by simp)) rfl
          have g59 : (fun v x w => 0 ≤ x ∧ ∃ ra' rc', v = .tuple #[.agg #[.slice ra' n' rc'], .bool can] ∧ (x = 0 → RefIn Q w ra' rc' ps')) (act.eval (.tmp 59)) gx wz := hF.val 8 _ 59 rfl (hall 8 (by simp)) rfl
          have g50 : (fun v x w => 0 ≤ x ∧ ∃ ra' rc', v = .tuple #[.agg #[.slice ra' n' rc'], .bool can] ∧ (x = 0 → RefIn Q w ra' rc' ps')) (act.eval (.tmp 50)) gx wz := hF.val 9 _ 50 rfl (hall 9 (by simp)) rfl
          have g60 : (fun v x w => 0 ≤ x ∧ ∃ ra' rc', v = .agg #[.slice ra' n' rc'] ∧ (x = 0 → RefIn Q w ra' rc' ps')) (act.eval (.tmp 60)) gx wz := hF.val 10 _ 60 rfl (hall 10 (by simp)) rfl
          have g61 : act.eval (.tmp 61) = .bool can := hF.val 11 _ 61 rfl (hall 11 (by simp)) rfl
          have g13 : act.eval (.tmp 13) = .bool can := hF.val 13 _ 13 rfl (hall 13 (by simp)) rfl
          have hact := hF.act [51, 52, 53, 54, 55, 56, 57, 58, 59, 50, 60, 61, 13] (by kernel_rfl)
          obtain ⟨hxz, hBz, hFz⟩ := Reg.PInv.done hI (fun j hj => hall j (by simp at hj ⊢; omega))
          clear hF hall
          simp only [List.foldl_cons, List.foldl_nil] at hact
          rw [g51, g52, g53, g54, g55, g56, g57, g61, g13] at hact
          clear g51 g52 g53 g54 g55 g56 g57 g61 g13
          generalize act.eval (.tmp 58) = u58 at hact g58
          generalize act.eval (.tmp 59) = u59 at hact g59
          generalize act.eval (.tmp 50) = u50 at hact g50
          generalize act.eval (.tmp 60) = u60 at hact g60
          simp only [List.setIfInBounds_toArray, List.set_cons_succ, List.set_cons_zero] at hact
          subst hact
          obtain ⟨ra', rc', hX6, hR6⟩ := hFz.2 rfl
          obtain ⟨hps, hn', hcan⟩ := HDF.out
          rw [← hn'] at hX6
          rw [HQE.out] at hR6
          have hBz6 : But (fun j => j = b6) w5 wz := hBz
          have hbw : Below w.heap.size w wz := by
            have h1 := HPL.out.2.2.2.2.2
            exact h1.trans (hBz6.below h1.size (fun k e => by have := HPL.out.2.1.2.2.2.2; omega))
          have HZ := hidq (show (MemAt wz b O M ∧ BoxAt wz b6 [.slice ra' ps'.length rc'] ∧ RefIn (fun j => ¬ O j) wz ra' rc' ps') ∧ BoxAt wz b3 [.slice none 0 0] ∧ Below w.heap.size w wz from
            ⟨⟨HPL.out.1.1.but hBz6 (fun k hk e => (HO5.out k hk).2 e), hX6, hR6⟩, HPL.out.2.1.2.1.but hBz6 HPL.out.2.1.2.2.1, hbw⟩)
          obtain ⟨m83, m84⟩ := FA.out wz hBz6
          have HOz := hidq (HOW.out wz hbw)
          have HBz := hidq hBz6.size
          have HCN := hidq (And.intro hps hcan)
          clear hX6 hR6 hBz6 hbw hFz hBz hI HF HDF hps hn' hcan FA FB FZ HBX HTO HOW HWR g59 g50 g60 g58 hxz
          go_wp2_with fail
          refine HOz.out.mono ?_
          rintro e w7 ⟨a5, c5, rfl, hS5, hf5, hb7⟩
          have hWr := hidq (write_any b O M kq vm xx a5 c5 (kts RL) w7 (HZ.out.1.1.below hb7) (by rw [hlmH.out]; exact hS5) (fun j hj hO => by have h1 := hf5 j hj; have h2 := (HO5.out j hO).1; have h3 := HBz.out; omega) (by rw [hlmH.out]; omega) (by have := HT.out.2.2.2.2.1; omega))
          rw [HPL.out.2.2.2.1.can kq vm, HCN.out.2] at hWr
          rw [hlmH.out] at hWr
          have H7 := hidq hb7
          clear hS5 hf5 hb7 HOz m83 m84
          go_wp2_with fail
          refine hWr.out.mono ?_
          rintro e w8 ⟨rfl, hM8, hb8o⟩
          have HN := hidq (show PLr w (i + 1) b3 b6 b (own' O w7 w8) (M.write kq vm xx (kts RL)) ra' rc' ps' w8 from by
            obtain ⟨⟨q1, q2, q3⟩, q4, q5⟩ := HZ.out
            obtain ⟨⟨t1, t2, t3, t4⟩, ⟨t5, t6, t7, t8, t9⟩, t10, t11, t12, t13⟩ := HPL.out
            have z1 := H7.out.size
            have z2 := q5.size
            have z3 := q2.lt
            have z4 := q4.lt
            have hck := write_clock M kq vm xx (kts RL)
            have hRl := t11.put5 kq vm xx RL
            rw [HCN.out.1] at hRl
            refine ⟨⟨hM8, fun k hk => ?_, ?_, ?_⟩, ⟨(q2.below H7.out).but hb8o t3, (q4.below H7.out).but hb8o t4, t7, t8, t9⟩, (((q3.mono (R := fun j => ¬ own' O w7 w8 j) (fun j hj hq => ?_)).below H7.out).but hb8o (fun j hj hO => hj (.inl hO))), hRl, by omega, ((q5.trans (H7.out.mono z2)).trans (hb8o.below (by omega) t2))⟩
            · rcases hk with e | e
              · exact t2 k e
              · omega
            · rintro (e | e)
              · exact t3 e
              · omega
            · rintro (e | e)
              · exact t4 e
              · omega
            · rintro (e | e)
              · exact hq e
              · omega)
          clear hM8 hb8o
          go_wp2_with fail
          go_meet
          case rel => exact ⟨b, _, _, ra', rc', ps', can, rfl, rfl, rfl, HN⟩
        · go_upto_region 15 with fail
          clear m80 m82
          have hvb := HVR.out.2
          clear hvb
          obtain ⟨ps', hps⟩ : ∃ ps', rput ps kq vr xx RL = ps' := ⟨_, rfl⟩
          obtain ⟨n', hn'⟩ : ∃ n', ps'.length = n' := ⟨_, rfl⟩
          obtain ⟨can, hcan⟩ : ∃ can, rcan ps kq vr = can := ⟨_, rfl⟩
          have HWR := hidq (fun W (hW : Below w5.heap.size w5 W) sa sc (hS : SlAt 2 W sa sc m (flatR RL)) (hf : ∀ j, inB sa j → lo ≤ j) => (show Calls Try.prog 54 #[.agg #[.slice ra pn rc], .int .i64 kq, .int .i64 vr, .agg #[.int .i64 xx, .slice sa m sc]] W fun e w' => ∃ ra' rc', e = .returned (.tuple #[.agg #[.slice ra' n' rc'], .bool can]) ∧ RefIn Q w' ra' rc' ps' ∧ Below W.heap.size W w' from by
            have := rwrite5_all Q ra rc pn ps kq vr xx sa m sc RL W (by rw [HQE.out]; exact HPL.out.2.2.1.below hW) (fun j hj => by rw [HQE.out]; intro hO; have h1 := hf j hj; have h2 := (HO5.out j hO).1; have h3 := HLO.out; omega) (fun j hj => by rw [HQE.out]; intro hO; have h2 := (HO5.out j hO).1; have h3 := hW.size; omega) HPN.out (by omega) hS HRL.out
            rw [hps, hn', hcan] at this
            exact this))
          have HDF := hidq (And.intro hps (And.intro hn' hcan))
          clear hps hn' hcan
          have HF : ∀ (x : Nat) (w w' : World), Below w.heap.size w w' → ((x = 0 → Below w5.heap.size w5 w) ∧ (x = 1 → ∃ ra' rc', BoxAt w b6 [.slice ra' n' rc'] ∧ RefIn Q w ra' rc' ps')) → ((x = 0 → Below w5.heap.size w5 w') ∧ (x = 1 → ∃ ra' rc', BoxAt w' b6 [.slice ra' n' rc'] ∧ RefIn Q w' ra' rc' ps')) :=
            fun _ _ _ hB h => ⟨fun e => (h.1 e).trans (hB.mono (h.1 e).size), fun e => by obtain ⟨g1, c1, h1, h2⟩ := h.2 e; exact ⟨g1, c1, h1.below hB, h2.below hB⟩⟩
          refine Reg.wp_region_ghost (Reg.gofList (cp15R b6 b8 pn rc n' m ln cp lo Q ra s kq vr xx can RL ps')) (Reg.PPres (fun j => j = b6)) (Reg.PInv [10] (fun j => j = b6) w5 (fun x w => (x = 0 → Below w5.heap.size w5 w) ∧ (x = 1 → ∃ ra' rc', BoxAt w b6 [.slice ra' n' rc'] ∧ RefIn Q w ra' rc' ps'))) 0 (by kernel_rfl) (by kernel_rfl) (Reg.GAllKept.at _ (cp15R_kept b6 b8 pn rc n' m ln cp lo Q ra s kq vr xx can RL ps')) (Reg.PInv.start 12 ⟨fun _ => below_drewN (Below.refl _ _) 1, fun e => by cases e⟩) ⟨?_, ?_, ?_, ?_, ?_, ?_, ?_, ?_, ?_, ?_, ?_, ?_, trivial⟩ ?_
          · refine Reg.GStepAt.plain (i := 0) rfl ?_
            intro x L ev w hI hk hp hA
            have e6 : ev (.tmp 6) = .pointer (some ⟨b6, 0, none⟩) := hA.oldNone 6 (by kernel_rfl)
            have hcc := hA.const
            have NL := Reg.not_listed hA 0 10 _ rfl ⟨0, .phase⟩ (by simp) rfl hk
            clear hA hp
            have hx0 : x = 0 := hI.1.trans (Reg.cnt_zero1 NL)
            have hBw := hI.2.2.1 hx0
            have f0 := FB.out w hBw
            refine Reg.out_value (v := .agg #[.slice ra pn rc]) ?_ ⟨x, rfl, Reg.PPres.refl _ _ _, Reg.PInv.light HF hI 0 (by decide) (Below.refl _ _)⟩
            clear hI hBw hx0 NL
            go_simp
          · refine Reg.GStepAt.plain (i := 1) rfl ?_
            intro x L ev w hI hk hp hA
            have e9 : ev (.tmp 9) = .int .i64 kq := hA.oldNone 9 (by kernel_rfl)
            have hcc := hA.const
            clear hA hp
            refine Reg.out_value (v := .int .i64 kq) ?_ ⟨x, rfl, Reg.PPres.refl _ _ _, Reg.PInv.light HF hI 1 (by decide) (Below.refl _ _)⟩
            go_simp
          · refine Reg.GStepAt.plain (i := 2) rfl ?_
            intro x L ev w hI hk hp hA
            have e10 : ev (.tmp 10) = .int .i64 vr := hA.oldNone 10 (by kernel_rfl)
            have hcc := hA.const
            clear hA hp
            refine Reg.out_value (v := .int .i64 vr) ?_ ⟨x, rfl, Reg.PPres.refl _ _ _, Reg.PInv.light HF hI 2 (by decide) (Below.refl _ _)⟩
            go_simp
          · refine Reg.GStepAt.plain (i := 3) rfl ?_
            intro x L ev w hI hk hp hA
            have e8 : ev (.tmp 8) = .pointer (some ⟨b8, 0, none⟩) := hA.oldNone 8 (by kernel_rfl)
            have hcc := hA.const
            clear hA hp
            refine Reg.out_value (v := .pointer (some ⟨b8, 3, none⟩)) ?_ ⟨x, rfl, Reg.PPres.refl _ _ _, Reg.PInv.light HF hI 3 (by decide) (Below.refl _ _)⟩
            go_simp
          · refine Reg.GStepAt.plain (i := 4) rfl ?_
            intro x L ev w hI hk hp hA
            have e78 : ev (.tmp 78) = .pointer (some ⟨b8, 3, none⟩) := hA.val 3 _ 78 rfl (hp ⟨3, .data⟩ (by simp) rfl) rfl
            have hcc := hA.const
            clear hA hp
            obtain ⟨f3, f4⟩ := FA.out w hI.2.1
            refine Reg.out_value (v := .agg #[.int .i64 xx, .slice s ln cp]) ?_ ⟨x, rfl, Reg.PPres.refl _ _ _, Reg.PInv.light HF hI 4 (by decide) (Below.refl _ _)⟩
            go_simp
          · refine Reg.GStepAt.plain (i := 5) rfl ?_
            intro x L ev w hI hk hp hA
            have e79 : ev (.tmp 79) = .agg #[.int .i64 xx, .slice s ln cp] := hA.val 4 _ 79 rfl (hp ⟨4, .data⟩ (by simp) rfl) rfl
            have hcc := hA.const
            have hcf := hA.func
            have NL := Reg.not_listed hA 5 10 _ rfl ⟨5, .phase⟩ (by simp) rfl hk
            clear hA hp
            have hx0 : x = 0 := hI.1.trans (Reg.cnt_zero1 NL)
            have hBw := hI.2.2.1 hx0
            refine Reg.out_call (f := 55) (args := #[.agg #[.int .i64 xx, .slice s ln cp]]) (w0 := w) ?_ ?_
            · go_simp
            refine (HTO.out w hBw).mono ?_
            rintro e w' ⟨sa, sc, rfl, hS', hf', hb'⟩
            exact ⟨_, rfl, x, ⟨Nat.zero_le _, sa, sc, rfl, fun j hj => (by have h1 := hBw.size; have h2 := HLO.out; have h3 := hf' j hj; omega), fun _ => hS'⟩, Reg.PPres.light hb', Reg.PInv.light HF hI 5 (by decide) hb'⟩
          · refine Reg.GStepAt.plain (i := 6) rfl ?_
            intro x L ev w hI hk hp hA
            have e75 : ev (.tmp 75) = .agg #[.slice ra pn rc] := hA.val 0 _ 75 rfl (hp ⟨0, .data⟩ (by simp) rfl) rfl
            have e76 : ev (.tmp 76) = .int .i64 kq := hA.val 1 _ 76 rfl (hp ⟨1, .data⟩ (by simp) rfl) rfl
            have e77 : ev (.tmp 77) = .int .i64 vr := hA.val 2 _ 77 rfl (hp ⟨2, .data⟩ (by simp) rfl) rfl
            have e80 : (fun v x w => 0 ≤ x ∧ ∃ sa sc, v = .agg #[.int .i64 xx, .slice sa m sc] ∧ (∀ j, inB sa j → lo ≤ j) ∧ (x = 0 → SlAt 2 w sa sc m (flatR RL))) (ev (.tmp 80)) x w := hA.val 5 _ 80 rfl (hp ⟨5, .data⟩ (by simp) rfl) rfl
            have hcc := hA.const
            have hcf := hA.func
            have NL := Reg.not_listed hA 6 10 _ rfl ⟨6, .phase⟩ (by simp) rfl hk
            clear hA hp
            have hx0 : x = 0 := hI.1.trans (Reg.cnt_zero1 NL)
            have hBw := hI.2.2.1 hx0
            obtain ⟨_, sa, sc, e80, hf', hS'⟩ := e80
            refine Reg.out_call (f := 54) (args := #[.agg #[.slice ra pn rc], .int .i64 kq, .int .i64 vr, .agg #[.int .i64 xx, .slice sa m sc]]) (w0 := w) ?_ ?_
            · go_simp
            refine (HWR.out w hBw sa sc (hS' hx0) hf').mono ?_
            rintro e w' ⟨ra', rc', rfl, hR', hb'⟩
            exact ⟨_, rfl, x, ⟨Nat.zero_le _, ra', rc', rfl, fun _ => hR'⟩, Reg.PPres.light hb', Reg.PInv.light HF hI 6 (by decide) hb'⟩
          · refine Reg.GStepAt.plain (i := 7) rfl ?_
            intro x L ev w hI hk hp hA
            have e81 : (fun v x w => 0 ≤ x ∧ ∃ ra' rc', v = .tuple #[.agg #[.slice ra' n' rc'], .bool can] ∧ (x = 0 → RefIn Q w ra' rc' ps')) (ev (.tmp 81)) x w := hA.val 6 _ 81 rfl (hp ⟨6, .data⟩ (by simp) rfl) rfl
            have hcc := hA.const
            clear hA hp
            exact Reg.out_value rfl ⟨x, e81, Reg.PPres.refl _ _ _, Reg.PInv.light HF hI 7 (by decide) (Below.refl _ _)⟩
          · refine Reg.GStepAt.plain (i := 8) rfl ?_
            intro x L ev w hI hk hp hA
            have e74 : (fun v x w => 0 ≤ x ∧ ∃ ra' rc', v = .tuple #[.agg #[.slice ra' n' rc'], .bool can] ∧ (x = 0 → RefIn Q w ra' rc' ps')) (ev (.tmp 74)) x w := hA.val 7 _ 74 rfl (hp ⟨7, .data⟩ (by simp) rfl) rfl
            have hcc := hA.const
            clear hA hp
            obtain ⟨_, ra', rc', e74, hR'⟩ := e74
            refine Reg.out_value (v := .agg #[.slice ra' n' rc']) ?_ ⟨x, ⟨Nat.zero_le _, ra', rc', rfl, hR'⟩, Reg.PPres.refl _ _ _, Reg.PInv.light HF hI 8 (by decide) (Below.refl _ _)⟩
            clear hI hR' hk
            go_simp
          · refine Reg.GStepAt.plain (i := 9) rfl ?_
            intro x L ev w hI hk hp hA
            have e74 : (fun v x w => 0 ≤ x ∧ ∃ ra' rc', v = .tuple #[.agg #[.slice ra' n' rc'], .bool can] ∧ (x = 0 → RefIn Q w ra' rc' ps')) (ev (.tmp 74)) x w := hA.val 7 _ 74 rfl (hp ⟨7, .data⟩ (by simp) rfl) rfl
            have hcc := hA.const
            clear hA hp
            obtain ⟨_, ra', rc', e74, hR'⟩ := e74
            refine Reg.out_value (v := .bool can) ?_ ⟨x, rfl, Reg.PPres.refl _ _ _, Reg.PInv.light HF hI 9 (by decide) (Below.refl _ _)⟩
            clear hI hR' hk
            go_simp
          · refine Reg.GStepAt.plain (i := 10) rfl ?_
            intro x L ev w hI hk hp hA
            have e6 : ev (.tmp 6) = .pointer (some ⟨b6, 0, none⟩) := hA.oldNone 6 (by kernel_rfl)
            have e82 : (fun v x w => 0 ≤ x ∧ ∃ ra' rc', v = .agg #[.slice ra' n' rc'] ∧ (x = 0 → RefIn Q w ra' rc' ps')) (ev (.tmp 82)) x w := hA.val 8 _ 82 rfl (hp ⟨8, .data⟩ (by simp) rfl) rfl
            have hcc := hA.const
            clear hA hp
            have hx0 : x = 0 := hI.1.trans (Reg.cnt_zero1 (Reg.getD_true hk))
            have hBw := hI.2.2.1 hx0
            obtain ⟨_, ra', rc', e82, hR'⟩ := e82
            have f0 := FB.out w hBw
            have f1 := FZ.out w hBw
            have hbS : But (fun j => j = b6) w (w.setCell ⟨b6, 0, none⟩ (.slice ra' n' rc')) := (But.refl (fun j => j = b6) w).set1 b6 0 rfl _
            refine Reg.out_skipP (w' := w.setCell ⟨b6, 0, none⟩ (.slice ra' n' rc')) ?_ ⟨x + 1, trivial, Reg.PPres.heavy hbS, Reg.PInv.heavy hI 10 (by decide) (by simp) hk hbS ⟨fun e => by omega, fun _ => ⟨ra', rc', (HBX.out w hBw).set 0 _, (hR' hx0).aside f0 _⟩⟩⟩
            clear hI hbS hR' hBw
            go_simp
          · refine Reg.GStepAt.plain (i := 11) rfl ?_
            intro x L ev w hI hk hp hA
            have e83 : ev (.tmp 83) = .bool can := hA.val 9 _ 83 rfl (hp ⟨9, .data⟩ (by simp) rfl) rfl
            have hcc := hA.const
            clear hA hp
            refine Reg.out_value (v := .bool can) ?_ ⟨x, rfl, Reg.PPres.refl _ _ _, Reg.PInv.light HF hI 11 (by decide) (Below.refl _ _)⟩
            go_simp
          intro gx L act wz hall hI hF
          have g75 : act.eval (.tmp 75) = .agg #[.slice ra pn rc] := hF.val 0 _ 75 rfl (hall 0 (by simp)) rfl
          have g76 : act.eval (.tmp 76) = .int .i64 kq := hF.val 1 _ 76 rfl (hall 1 (by simp)) rfl
          have g77 : act.eval (.tmp 77) = .int .i64 vr := hF.val 2 _ 77 rfl (hall 2 (by simp)) rfl
          have g78 : act.eval (.tmp 78) = .pointer (some ⟨b8, 3, none⟩) := hF.val 3 _ 78 rfl (hall 3 (by simp)) rfl
          have g79 : act.eval (.tmp 79) = .agg #[.int .i64 xx, .slice s ln cp] := hF.val 4 _ 79 rfl (hall 4 (by simp)) rfl
          have g80 : (fun v x w => 0 ≤ x ∧ ∃ sa sc, v = .agg #[.int .i64 xx, .slice sa m sc] ∧ (∀ j, inB sa j → lo ≤ j) ∧ (x = 0 → SlAt 2 w sa sc m (flatR RL))) (act.eval (.tmp 80)) gx wz := hF.val 5 _ 80 rfl (hall 5 (by simp)) rfl
          have g81 : (fun v x w => 0 ≤ x ∧ ∃ ra' rc', v = .tuple #[.agg #[.slice ra' n' rc'], .bool can] ∧ (x = 0 → RefIn Q w ra' rc' ps')) (act.eval (.tmp 81)) gx wz := hF.val 6 _ 81 rfl (hall 6 (by simp)) rfl
          have g74 : (fun v x w => 0 ≤ x ∧ ∃ ra' rc', v = .tuple #[.agg #[.slice ra' n' rc'], .bool can] ∧ (x = 0 → RefIn Q w ra' rc' ps')) (act.eval (.tmp 74)) gx wz := hF.val 7 _ 74 rfl (hall 7 (by simp)) rfl
          have g82 : (fun v x w => 0 ≤ x ∧ ∃ ra' rc', v = .agg #[.slice ra' n' rc'] ∧ (x = 0 → RefIn Q w ra' rc' ps')) (act.eval (.tmp 82)) gx wz := hF.val 8 _ 82 rfl (hall 8 (by simp)) rfl
          have g83 : act.eval (.tmp 83) = .bool can := hF.val 9 _ 83 rfl (hall 9 (by simp)) rfl
          have g13 : act.eval (.tmp 13) = .bool can := hF.val 11 _ 13 rfl (hall 11 (by simp)) rfl
          have hact := hF.act [75, 76, 77, 78, 79, 80, 81, 74, 82, 83, 13] (by kernel_rfl)
          obtain ⟨hxz, hBz, hFz⟩ := Reg.PInv.done hI (fun j hj => hall j (by simp at hj ⊢; omega))
          clear hF hall
          simp only [List.foldl_cons, List.foldl_nil] at hact
          rw [g75, g76, g77, g78, g79, g83, g13] at hact
          clear g75 g76 g77 g78 g79 g83 g13
          generalize act.eval (.tmp 80) = u80 at hact g80
          generalize act.eval (.tmp 81) = u81 at hact g81
          generalize act.eval (.tmp 74) = u74 at hact g74
          generalize act.eval (.tmp 82) = u82 at hact g82
          simp only [List.setIfInBounds_toArray, List.set_cons_succ, List.set_cons_zero] at hact
          subst hact
          obtain ⟨ra', rc', hX6, hR6⟩ := hFz.2 rfl
          obtain ⟨hps, hn', hcan⟩ := HDF.out
          rw [← hn'] at hX6
          rw [HQE.out] at hR6
          have hBz6 : But (fun j => j = b6) w5 wz := hBz
          have hbw : Below w.heap.size w wz := by
            have h1 := HPL.out.2.2.2.2.2
            exact h1.trans (hBz6.below h1.size (fun k e => by have := HPL.out.2.1.2.2.2.2; omega))
          have HZ := hidq (show (MemAt wz b O M ∧ BoxAt wz b6 [.slice ra' ps'.length rc'] ∧ RefIn (fun j => ¬ O j) wz ra' rc' ps') ∧ BoxAt wz b3 [.slice none 0 0] ∧ Below w.heap.size w wz from
            ⟨⟨HPL.out.1.1.but hBz6 (fun k hk e => (HO5.out k hk).2 e), hX6, hR6⟩, HPL.out.2.1.2.1.but hBz6 HPL.out.2.1.2.2.1, hbw⟩)
          obtain ⟨m83, m84⟩ := FA.out wz hBz6
          have HOz := hidq (HOW.out wz hbw)
          have HBz := hidq hBz6.size
          have HCN := hidq (And.intro hps hcan)
          clear hX6 hR6 hBz6 hbw hFz hBz hI HF HDF hps hn' hcan FA FB FZ HBX HTO HOW HWR g81 g74 g82 g80 hxz
          go_wp2_with fail
          refine HOz.out.mono ?_
          rintro e w7 ⟨a5, c5, rfl, hS5, hf5, hb7⟩
          have hWr0 := force_all b O M kq xx a5 c5 (kts RL) w7 (HZ.out.1.1.below hb7) (by rw [hlmH.out]; exact hS5) (fun j hj hO => by have h1 := hf5 j hj; have h2 := (HO5.out j hO).1; have h3 := HBz.out; omega) (by rw [hlmH.out]; omega) (by have := HT.out.2.2.2.2.1; omega)
          rw [(force_write M kq xx (kts RL)).1, (force_write M kq xx (kts RL)).2, HVR.out.1, HPL.out.2.2.2.1.can kq vr, HCN.out.2] at hWr0
          have hWr := hidq hWr0
          clear hWr0
          rw [hlmH.out] at hWr
          have H7 := hidq hb7
          clear hS5 hf5 hb7 HOz m83 m84
          go_wp2_with fail
          refine hWr.out.mono ?_
          rintro e w8 ⟨rfl, hM8, hb8o⟩
          have HN := hidq (show PLr w (i + 1) b3 b6 b (own' O w7 w8) (M.write kq vr xx (kts RL)) ra' rc' ps' w8 from by
            obtain ⟨⟨q1, q2, q3⟩, q4, q5⟩ := HZ.out
            obtain ⟨⟨t1, t2, t3, t4⟩, ⟨t5, t6, t7, t8, t9⟩, t10, t11, t12, t13⟩ := HPL.out
            have z1 := H7.out.size
            have z2 := q5.size
            have z3 := q2.lt
            have z4 := q4.lt
            have hck := write_clock M kq vr xx (kts RL)
            have hRl := t11.put5 kq vr xx RL
            rw [HCN.out.1] at hRl
            refine ⟨⟨hM8, fun k hk => ?_, ?_, ?_⟩, ⟨(q2.below H7.out).but hb8o t3, (q4.below H7.out).but hb8o t4, t7, t8, t9⟩, (((q3.mono (R := fun j => ¬ own' O w7 w8 j) (fun j hj hq => ?_)).below H7.out).but hb8o (fun j hj hO => hj (.inl hO))), hRl, by omega, ((q5.trans (H7.out.mono z2)).trans (hb8o.below (by omega) t2))⟩
            · rcases hk with e | e
              · exact t2 k e
              · omega
            · rintro (e | e)
              · exact t3 e
              · omega
            · rintro (e | e)
              · exact t4 e
              · omega
            · rintro (e | e)
              · exact hq e
              · omega)
          clear hM8 hb8o
          go_wp2_with fail
          go_meet
          case rel => exact ⟨b, _, _, ra', rc', ps', can, rfl, rfl, rfl, HN⟩
        · have hCl := hidq (mclone_any b O M w5 HPL.out.1.1)
          clear m80 m82 FA FB FZ HBX HTO HOW
          go_wp2_with fail
          refine hCl.out.mono ?_
          rintro e w6 ⟨b', O', rfl, hbb, hOO, hM6, hb6w⟩
          have hFo : Calls Try.prog 56 #[.pointer (some ⟨b, 0, none⟩), .int .i64 0, .agg #[.int .i64 (-1), .slice none 0 0]] w6 fun e w' => e = .returned (.bool (inRange 0)) ∧ MemAt w' b (own' O w6 w') (M.force 0 (-1) []) ∧ But O w6 w' :=
            force_all b O M 0 (-1) none 0 [] w6 (HPL.out.1.1.below hb6w) (SlAt.nil _ _) (fun j hj => by obtain ⟨x, hx, _⟩ := hj; cases hx) (Nat.zero_le _) (by have := HT.out.2.2.2.2.1; omega)
          have HFo := hidq hFo
          have H6 := hidq (And.intro hbb (And.intro hOO (And.intro hM6 hb6w)))
          clear hFo hbb hOO hM6 hb6w hCl
          go_wp2_with fail
          refine HFo.out.mono ?_
          rintro e w7 ⟨rfl, _, hb7⟩
          have HN := hidq (show PLr w (i + 1) b3 b6 b' O' M ra rc ps w7 from by
            obtain ⟨hbb, hOO, hM6, hb6w⟩ := H6.out
            obtain ⟨⟨t1, t2, t3, t4⟩, ⟨t5, t6, t7, t8, t9⟩, t10, t11, t12, t13⟩ := HPL.out
            have z1 := hb6w.size
            have z2 := t13.size
            have z3 := t5.lt
            have z4 := t6.lt
            have hd : ∀ k, O' k → ¬ O k := fun k hk hO => by have h1 := hOO k hk; have h2 := t1.lt k hO; omega
            refine ⟨⟨hM6.but hb7 hd, fun k hk => by have := hOO k hk; omega, fun hk => by have := hOO _ hk; omega, fun hk => by have := hOO _ hk; omega⟩, ⟨(t5.below hb6w).but hb7 t3, (t6.below hb6w).but hb7 t4, t7, t8, t9⟩, (((t10.mono (R := fun j => ¬ O j ∧ ¬ O' j) (fun j hj hq => ⟨hq, fun hk => by have := hOO _ hk; omega⟩)).below hb6w).but hb7 (fun j hj => hj.1)).mono (fun j _ hj => hj.2), t11, by omega, (t13.trans (hb6w.mono z2)).trans (hb7.below (by omega) t2)⟩)
          clear hb7
          go_wp2_with fail
          go_meet
          case rel => exact ⟨b', O', M, ra, rc, ps, true, rfl, rfl, rfl, HN⟩
      case rest =>
        clear HT H5 HS8 m80 m82 HVR HPN hr3
        obtain ⟨b, O, M, ra, rc, ps, can, rfl, rfl, rfl, HT⟩ := hcut
        obtain ⟨w9, hw9⟩ : ∃ w9, w9 = wc := ⟨_, rfl⟩
        subst hw9
        obtain ⟨pn, hpn⟩ : ∃ pn, ps.length = pn := ⟨_, rfl⟩
        have hpi : pn ≤ 41 := by have h1 := HT.out.2.2.2.1.clk; have h2 := HT.out.2.2.2.2.1; omega
        obtain ⟨ml, hml⟩ : ∃ ml : Int, (M.len : Int) = ml := ⟨_, rfl⟩
        have HNE : (can != can) = false := by cases can <;> rfl
        have HCV : IntKind.u64.wrap (pn : Int) = (pn : Int) := by rw [u64_wrap5]; omega
        have FB := hidq (fun W (hW : Reg.Keeps w9 W) => (show W.cell? ⟨b6, 0, none⟩ = some (.slice ra pn rc) from by
          have := HT.out.2.1.1
          rw [hpn] at this
          exact ((this.below (show Below w9.heap.size w9 W from hW)).get 0 _ rfl).1))
        have HLN := hidq (fun W (hW : Reg.Keeps w9 W) => (show Calls Try.prog 53 #[.pointer (some ⟨b, 0, none⟩)] W fun e w' => e = .returned (.int .i64 ml) ∧ w' = W from by
          have := len5_any b O M W (HT.out.1.1.below (show Below w9.heap.size w9 W from hW))
          rw [hml] at this
          exact this))
        have HRL := hidq (fun W (hW : Reg.Keeps w9 W) => (show Calls Try.prog 58 #[.agg #[.slice ra pn rc]] W fun e w' => e = .returned (.int .i64 ml) ∧ Below W.heap.size W w' from by
          have := rlen5_any ra rc pn ps W (HT.out.2.2.1.at.below (show Below w9.heap.size w9 W from hW)) hpn (by omega) HT.out.2.2.2.1.rng
          rw [← hpn, ← HT.out.2.2.2.1.len, hml, hpn] at this
          exact this))
        have HCK := hidq (fun W (hW : Reg.Keeps w9 W) => (show Calls Try.prog 30 #[.pointer (some ⟨b, 0, none⟩)] W fun e w' => e = .returned (.int .u64 (pn : Int)) ∧ w' = W from by
          have := clock5_any b O M W (HT.out.1.1.below (show Below w9.heap.size w9 W from hW))
          rw [HT.out.2.2.2.1.clk, hpn] at this
          exact this))
        clear hml hpn
        go_upto_region 21 with fail
        have hrefl : ∀ w : World, Reg.Keeps w w := Reg.Keeps.refl
        refine Reg.wp_region_props (Reg.ofList (cp21R b b6 pn rc ra ml can)) Reg.Keeps (fun _ w => Reg.Keeps w9 w) (by kernel_rfl) (by kernel_rfl) (Reg.AllKept.at _ (cp21R_kept b b6 pn rc ra ml can)) hrefl (Reg.Keeps.drewN (Reg.Keeps.refl _) 1) ⟨?_, ?_, ?_, ?_, ?_, ?_, ?_, ?_, ?_, ?_, ?_, ?_, ?_, ?_, ?_, ?_, ?_, ?_, ?_, trivial⟩ ?_
        · refine Reg.StepAt.plain (i := 0) rfl ?_
          intro L ev w hI hk hp hA
          have e12 : ev (.tmp 12) = .bool can := hA.oldNone 12 (by kernel_rfl)
          have hcc := hA.const
          clear hA hp
          refine Reg.out_value (v := .bool can) ?_ ⟨rfl, hrefl _, hI⟩
          go_simp
        · refine Reg.StepAt.plain (i := 1) rfl ?_
          intro L ev w hI hk hp hA
          have e13 : ev (.tmp 13) = .bool can := hA.oldNone 13 (by kernel_rfl)
          have hcc := hA.const
          clear hA hp
          refine Reg.out_value (v := .bool can) ?_ ⟨rfl, hrefl _, hI⟩
          go_simp
        · refine Reg.StepAt.plain (i := 2) rfl ?_
          intro L ev w hI hk hp hA
          have e98 : ev (.tmp 98) = .bool can := hA.val 0 _ 98 rfl (hp ⟨0, .data⟩ (by simp) rfl) rfl
          have e99 : ev (.tmp 99) = .bool can := hA.val 1 _ 99 rfl (hp ⟨1, .data⟩ (by simp) rfl) rfl
          have hcc := hA.const
          clear hA hp
          refine Reg.out_value (v := .bool false) ?_ ⟨rfl, hrefl _, hI⟩
          (have hq := HNE; go_simp)
        · refine Reg.StepAt.plain (i := 3) rfl ?_
          intro L ev w hI hk hp hA
          have e100 : ev (.tmp 100) = .bool false := hA.val 2 _ 100 rfl (hp ⟨2, .data⟩ (by simp) rfl) rfl
          have hcc := hA.const
          clear hA hp
          refine Reg.out_value (v := .bool false) ?_ ⟨rfl, hrefl _, hI⟩
          go_simp
        · refine Reg.StepAt.guarded (i := 4) rfl ?_
          intro L ev w hI hk hp hA
          have e5 : ev (.tmp 5) = .pointer (some ⟨b, 0, none⟩) := hA.oldNone 5 (by kernel_rfl)
          have eg : ev (.tmp 101) = .bool false := hA.val 3 _ 101 rfl (hp ⟨3, .guard⟩ (by simp) rfl) rfl
          refine ⟨_, 101, false, rfl, rfl, eg, ?_⟩
          rw [if_pos rfl]
          have hcc := hA.const
          clear hA hp
          refine Reg.out_value (v := .pointer (some ⟨b, 0, none⟩)) ?_ ⟨rfl, hrefl _, hI⟩
          go_simp
        · refine Reg.StepAt.guarded (i := 5) rfl ?_
          intro L ev w hI hk hp hA
          have e102 : ev (.tmp 102) = .pointer (some ⟨b, 0, none⟩) := hA.val 4 _ 102 rfl (hp ⟨4, .data⟩ (by simp) rfl) rfl
          have eg : ev (.tmp 101) = .bool false := hA.val 3 _ 101 rfl (hp ⟨3, .chain⟩ (by simp) rfl) rfl
          refine ⟨_, 101, false, rfl, rfl, eg, ?_⟩
          rw [if_pos rfl]
          have hcc := hA.const
          have hcf := hA.func
          clear hA hp
          refine Reg.out_call (f := 53) (args := #[.pointer (some ⟨b, 0, none⟩)]) (w0 := w) ?_ ?_
          · go_simp
          refine (HLN.out w hI).mono ?_
          rintro e w' ⟨rfl, rfl⟩
          exact ⟨_, rfl, rfl, hrefl _, hI⟩
        · refine Reg.StepAt.guarded (i := 6) rfl ?_
          intro L ev w hI hk hp hA
          have e6 : ev (.tmp 6) = .pointer (some ⟨b6, 0, none⟩) := hA.oldNone 6 (by kernel_rfl)
          have eg : ev (.tmp 101) = .bool false := hA.val 3 _ 101 rfl (hp ⟨3, .guard⟩ (by simp) rfl) rfl
          refine ⟨_, 101, false, rfl, rfl, eg, ?_⟩
          rw [if_pos rfl]
          have hcc := hA.const
          clear hA hp
          have f0 := FB.out w hI
          refine Reg.out_value (v := .agg #[.slice ra pn rc]) ?_ ⟨rfl, hrefl _, hI⟩
          go_simp
        · refine Reg.StepAt.guarded (i := 7) rfl ?_
          intro L ev w hI hk hp hA
          have e104 : ev (.tmp 104) = .agg #[.slice ra pn rc] := hA.val 6 _ 104 rfl (hp ⟨6, .data⟩ (by simp) rfl) rfl
          have eg : ev (.tmp 101) = .bool false := hA.val 3 _ 101 rfl (hp ⟨3, .guard⟩ (by simp) rfl) rfl
          refine ⟨_, 101, false, rfl, rfl, eg, ?_⟩
          rw [if_pos rfl]
          have hcc := hA.const
          have hcf := hA.func
          clear hA hp
          refine Reg.out_call (f := 58) (args := #[.agg #[.slice ra pn rc]]) (w0 := w) ?_ ?_
          · go_simp
          refine (HRL.out w hI).mono ?_
          rintro e w' ⟨rfl, hb'⟩
          exact ⟨_, rfl, rfl, hb', Reg.Keeps.trans hI hb'⟩
        · refine Reg.StepAt.guarded (i := 8) rfl ?_
          intro L ev w hI hk hp hA
          have e103 : ev (.tmp 103) = .int .i64 ml := hA.val 5 _ 103 rfl (hp ⟨5, .data⟩ (by simp) rfl) rfl
          have e105 : ev (.tmp 105) = .int .i64 ml := hA.val 7 _ 105 rfl (hp ⟨7, .data⟩ (by simp) rfl) rfl
          have eg : ev (.tmp 101) = .bool false := hA.val 3 _ 101 rfl (hp ⟨3, .guard⟩ (by simp) rfl) rfl
          refine ⟨_, 101, false, rfl, rfl, eg, ?_⟩
          rw [if_pos rfl]
          have hcc := hA.const
          clear hA hp
          refine Reg.out_value (v := .bool false) ?_ ⟨rfl, hrefl _, hI⟩
          go_simp
        · refine Reg.StepAt.plain (i := 9) rfl ?_
          intro L ev w hI hk hp hA
          have e101 : ev (.tmp 101) = .bool false := hA.val 3 _ 101 rfl (hp ⟨3, .data⟩ (by simp) rfl) rfl
          have e106 : ev (.tmp 106) = .bool false := hA.val 8 _ 106 rfl (hp ⟨8, .data⟩ (by simp) rfl) rfl
          have hcc := hA.const
          clear hA hp
          refine Reg.out_value (v := .bool false) ?_ ⟨rfl, hrefl _, hI⟩
          go_simp
        · refine Reg.StepAt.plain (i := 10) rfl ?_
          intro L ev w hI hk hp hA
          have e107 : ev (.tmp 107) = .bool false := hA.val 9 _ 107 rfl (hp ⟨9, .data⟩ (by simp) rfl) rfl
          have hcc := hA.const
          clear hA hp
          refine Reg.out_value (v := .bool false) ?_ ⟨rfl, hrefl _, hI⟩
          go_simp
        · refine Reg.StepAt.guarded (i := 11) rfl ?_
          intro L ev w hI hk hp hA
          have e5 : ev (.tmp 5) = .pointer (some ⟨b, 0, none⟩) := hA.oldNone 5 (by kernel_rfl)
          have eg : ev (.tmp 108) = .bool false := hA.val 10 _ 108 rfl (hp ⟨10, .guard⟩ (by simp) rfl) rfl
          refine ⟨_, 108, false, rfl, rfl, eg, ?_⟩
          rw [if_pos rfl]
          have hcc := hA.const
          clear hA hp
          refine Reg.out_value (v := .pointer (some ⟨b, 0, none⟩)) ?_ ⟨rfl, hrefl _, hI⟩
          go_simp
        · refine Reg.StepAt.guarded (i := 12) rfl ?_
          intro L ev w hI hk hp hA
          have e109 : ev (.tmp 109) = .pointer (some ⟨b, 0, none⟩) := hA.val 11 _ 109 rfl (hp ⟨11, .data⟩ (by simp) rfl) rfl
          have eg : ev (.tmp 108) = .bool false := hA.val 10 _ 108 rfl (hp ⟨10, .chain⟩ (by simp) rfl) rfl
          refine ⟨_, 108, false, rfl, rfl, eg, ?_⟩
          rw [if_pos rfl]
          have hcc := hA.const
          have hcf := hA.func
          clear hA hp
          refine Reg.out_call (f := 30) (args := #[.pointer (some ⟨b, 0, none⟩)]) (w0 := w) ?_ ?_
          · go_simp
          refine (HCK.out w hI).mono ?_
          rintro e w' ⟨rfl, rfl⟩
          exact ⟨_, rfl, rfl, hrefl _, hI⟩
        · refine Reg.StepAt.guarded (i := 13) rfl ?_
          intro L ev w hI hk hp hA
          have e6 : ev (.tmp 6) = .pointer (some ⟨b6, 0, none⟩) := hA.oldNone 6 (by kernel_rfl)
          have eg : ev (.tmp 108) = .bool false := hA.val 10 _ 108 rfl (hp ⟨10, .guard⟩ (by simp) rfl) rfl
          refine ⟨_, 108, false, rfl, rfl, eg, ?_⟩
          rw [if_pos rfl]
          have hcc := hA.const
          clear hA hp
          refine Reg.out_value (v := .pointer (some ⟨b6, 0, none⟩)) ?_ ⟨rfl, hrefl _, hI⟩
          go_simp
        · refine Reg.StepAt.guarded (i := 14) rfl ?_
          intro L ev w hI hk hp hA
          have e111 : ev (.tmp 111) = .pointer (some ⟨b6, 0, none⟩) := hA.val 13 _ 111 rfl (hp ⟨13, .data⟩ (by simp) rfl) rfl
          have eg : ev (.tmp 108) = .bool false := hA.val 10 _ 108 rfl (hp ⟨10, .guard⟩ (by simp) rfl) rfl
          refine ⟨_, 108, false, rfl, rfl, eg, ?_⟩
          rw [if_pos rfl]
          have hcc := hA.const
          clear hA hp
          have f0 := FB.out w hI
          refine Reg.out_value (v := .slice ra pn rc) ?_ ⟨rfl, hrefl _, hI⟩
          go_simp
        · refine Reg.StepAt.guarded (i := 15) rfl ?_
          intro L ev w hI hk hp hA
          have e112 : ev (.tmp 112) = .slice ra pn rc := hA.val 14 _ 112 rfl (hp ⟨14, .data⟩ (by simp) rfl) rfl
          have eg : ev (.tmp 108) = .bool false := hA.val 10 _ 108 rfl (hp ⟨10, .guard⟩ (by simp) rfl) rfl
          refine ⟨_, 108, false, rfl, rfl, eg, ?_⟩
          rw [if_pos rfl]
          have hcc := hA.const
          clear hA hp
          refine Reg.out_value (v := .int .i64 (pn : Int)) ?_ ⟨rfl, hrefl _, hI⟩
          go_simp
        · refine Reg.StepAt.guarded (i := 16) rfl ?_
          intro L ev w hI hk hp hA
          have e113 : ev (.tmp 113) = .int .i64 (pn : Int) := hA.val 15 _ 113 rfl (hp ⟨15, .data⟩ (by simp) rfl) rfl
          have eg : ev (.tmp 108) = .bool false := hA.val 10 _ 108 rfl (hp ⟨10, .guard⟩ (by simp) rfl) rfl
          refine ⟨_, 108, false, rfl, rfl, eg, ?_⟩
          rw [if_pos rfl]
          have hcc := hA.const
          clear hA hp
          refine Reg.out_value (v := .int .u64 (pn : Int)) ?_ ⟨rfl, hrefl _, hI⟩
          (have hq := HCV; go_simp)
        · refine Reg.StepAt.guarded (i := 17) rfl ?_
          intro L ev w hI hk hp hA
          have e110 : ev (.tmp 110) = .int .u64 (pn : Int) := hA.val 12 _ 110 rfl (hp ⟨12, .data⟩ (by simp) rfl) rfl
          have e114 : ev (.tmp 114) = .int .u64 (pn : Int) := hA.val 16 _ 114 rfl (hp ⟨16, .data⟩ (by simp) rfl) rfl
          have eg : ev (.tmp 108) = .bool false := hA.val 10 _ 108 rfl (hp ⟨10, .guard⟩ (by simp) rfl) rfl
          refine ⟨_, 108, false, rfl, rfl, eg, ?_⟩
          rw [if_pos rfl]
          have hcc := hA.const
          clear hA hp
          refine Reg.out_value (v := .bool false) ?_ ⟨rfl, hrefl _, hI⟩
          go_simp
        · refine Reg.StepAt.plain (i := 18) rfl ?_
          intro L ev w hI hk hp hA
          have e108 : ev (.tmp 108) = .bool false := hA.val 10 _ 108 rfl (hp ⟨10, .data⟩ (by simp) rfl) rfl
          have e115 : ev (.tmp 115) = .bool false := hA.val 17 _ 115 rfl (hp ⟨17, .data⟩ (by simp) rfl) rfl
          have hcc := hA.const
          clear hA hp
          refine Reg.out_value (v := .bool false) ?_ ⟨rfl, hrefl _, hI⟩
          go_simp
        intro L act wz hall hI hF
        have g98 : act.eval (.tmp 98) = .bool can := hF.val 0 _ 98 rfl (hall 0 (by simp)) rfl
        have g99 : act.eval (.tmp 99) = .bool can := hF.val 1 _ 99 rfl (hall 1 (by simp)) rfl
        have g100 : act.eval (.tmp 100) = .bool false := hF.val 2 _ 100 rfl (hall 2 (by simp)) rfl
        have g101 : act.eval (.tmp 101) = .bool false := hF.val 3 _ 101 rfl (hall 3 (by simp)) rfl
        have g102 : act.eval (.tmp 102) = .pointer (some ⟨b, 0, none⟩) := hF.val 4 _ 102 rfl (hall 4 (by simp)) rfl
        have g103 : act.eval (.tmp 103) = .int .i64 ml := hF.val 5 _ 103 rfl (hall 5 (by simp)) rfl
        have g104 : act.eval (.tmp 104) = .agg #[.slice ra pn rc] := hF.val 6 _ 104 rfl (hall 6 (by simp)) rfl
        have g105 : act.eval (.tmp 105) = .int .i64 ml := hF.val 7 _ 105 rfl (hall 7 (by simp)) rfl
        have g106 : act.eval (.tmp 106) = .bool false := hF.val 8 _ 106 rfl (hall 8 (by simp)) rfl
        have g107 : act.eval (.tmp 107) = .bool false := hF.val 9 _ 107 rfl (hall 9 (by simp)) rfl
        have g108 : act.eval (.tmp 108) = .bool false := hF.val 10 _ 108 rfl (hall 10 (by simp)) rfl
        have g109 : act.eval (.tmp 109) = .pointer (some ⟨b, 0, none⟩) := hF.val 11 _ 109 rfl (hall 11 (by simp)) rfl
        have g110 : act.eval (.tmp 110) = .int .u64 (pn : Int) := hF.val 12 _ 110 rfl (hall 12 (by simp)) rfl
        have g111 : act.eval (.tmp 111) = .pointer (some ⟨b6, 0, none⟩) := hF.val 13 _ 111 rfl (hall 13 (by simp)) rfl
        have g112 : act.eval (.tmp 112) = .slice ra pn rc := hF.val 14 _ 112 rfl (hall 14 (by simp)) rfl
        have g113 : act.eval (.tmp 113) = .int .i64 (pn : Int) := hF.val 15 _ 113 rfl (hall 15 (by simp)) rfl
        have g114 : act.eval (.tmp 114) = .int .u64 (pn : Int) := hF.val 16 _ 114 rfl (hall 16 (by simp)) rfl
        have g115 : act.eval (.tmp 115) = .bool false := hF.val 17 _ 115 rfl (hall 17 (by simp)) rfl
        have g116 : act.eval (.tmp 116) = .bool false := hF.val 18 _ 116 rfl (hall 18 (by simp)) rfl
        have hact := hF.act [98, 99, 100, 101, 102, 103, 104, 105, 106, 107, 108, 109, 110, 111, 112, 113, 114, 115, 116] (by kernel_rfl)
        clear hF hall
        simp only [List.foldl_cons, List.foldl_nil] at hact
        rw [g98, g99, g100, g101, g102, g103, g104, g105, g106, g107, g108, g109, g110, g111, g112, g113, g114, g115, g116] at hact
        clear g98 g99 g100 g101 g102 g103 g104 g105 g106 g107 g108 g109 g110 g111 g112 g113 g114 g115 g116
        simp only [List.setIfInBounds_toArray, List.set_cons_succ, List.set_cons_zero] at hact
        subst hact
        have HN := hidq (PLr.to HT.out (show Below w9.heap.size w9 wz from hI))
        clear hI FB HLN HRL HCK HCV HNE HT
        go_wp2_with fail
        exact ⟨⟨i + 1, b, O, M, ra, rc, ps, rfl, by push_cast; rfl, by omega, by omega, HN⟩, by simp [intOf]; omega⟩
    · have hnx : ∀ (Q : Prop), (¬ ((i : Int) < 40) → (i : Int) < (n : Int) → Q) → (¬ ((i : Int) < (n : Int)) → Q) → Q := fun Q h1 h2 => by
        rcases Nat.lt_or_ge i n with e | e
        · exact h1 (by omega) (by omega)
        · exact h2 (by omega)
      obtain ⟨pn, hpn⟩ : ∃ pn, ps.length = pn := ⟨_, rfl⟩
      have h6 := HT.out.2.1.1
      rw [hpn] at h6
      have h3 := HT.out.2.1.2.1
      have hne := HT.out.2.1.2.2.1
      have HE := hidq (And.intro h6 (And.intro h3 hne))
      obtain ⟨m6, f6⟩ := h6.get 0 _ rfl
      obtain ⟨m3, f3⟩ := h3.get 0 _ rfl
      have HPN := hidq hpn
      clear h6 h3 hlt hpn hne
      apply hnx
      · intro q0 q1
        clear hnx
        go_upto_region 23 with fail
        go_region
        go_wp2_with fail
        have t3 : (wr.setCell ⟨b3, 0, none⟩ (.slice ra pn rc)).drew.cell? ⟨b3, 0, none⟩ = some (.slice ra pn rc) := World.cell?_setCell_same' _ _ _ (by rw [m3]; rfl)
        refine bodyPost_ret (v := .tuple #[.pointer (some ⟨b, 0, none⟩), .agg #[.slice ra pn rc], .bool true]) (by simp [results, Try.results21, go_sem, t3]) rfl ?_
        have hbb : But (fun k => k = b3) wr (wr.setCell ⟨b3, 0, none⟩ (.slice ra pn rc)).drew := ((But.refl (fun k => k = b3) wr).set1 b3 0 rfl _).drew
        obtain ⟨⟨t1, t2, q3, t4⟩, ⟨t5, t6, t7, t8, t9⟩, t10, t11, t12, t13⟩ := HT.out
        exact ⟨b, O, M, ra, rc, ps, by rw [HPN.out], t1.but hbb (fun k hk e => t4 (e ▸ hk)), ((t10.aside m3 _).but (S := fun _ => False) (But.refl _ _).drew (fun _ _ e => e)).at, t11, by have := t11.clk; omega, t13.trans (hbb.below t13.size (fun k e => by rw [e]; exact t8))⟩
      · intro q0
        clear hnx
        go_upto_region 23 with fail
        go_region
        go_wp2_with fail
        have t3 : (wr.setCell ⟨b3, 0, none⟩ (.slice ra pn rc)).drew.cell? ⟨b3, 0, none⟩ = some (.slice ra pn rc) := World.cell?_setCell_same' _ _ _ (by rw [m3]; rfl)
        refine bodyPost_ret (v := .tuple #[.pointer (some ⟨b, 0, none⟩), .agg #[.slice ra pn rc], .bool true]) (by simp [results, Try.results21, go_sem, t3]) rfl ?_
        have hbb : But (fun k => k = b3) wr (wr.setCell ⟨b3, 0, none⟩ (.slice ra pn rc)).drew := ((But.refl (fun k => k = b3) wr).set1 b3 0 rfl _).drew
        obtain ⟨⟨t1, t2, q3, t4⟩, ⟨t5, t6, t7, t8, t9⟩, t10, t11, t12, t13⟩ := HT.out
        exact ⟨b, O, M, ra, rc, ps, by rw [HPN.out], t1.but hbb (fun k hk e => t4 (e ▸ hk)), ((t10.aside m3 _).but (S := fun _ => False) (But.refl _ _).drew (fun _ _ e => e)).at, t11, by have := t11.clk; omega, t13.trans (hbb.below t13.size (fun k e => by rw [e]; exact t8))⟩
end Go.Proofs.Ytepigofpcjmddaa

namespace Go.Proofs.Ytepigofpcjmddaa
open Go.RowKit Go.Sort

set_option maxRecDepth 10000 in
theorem awake5_any (w : World) : Calls Try.prog 20 #[] w fun e w' => e = .returned (.bool true) ∧ Below w.heap.size w w' := by
  go_enter Try.func20, Try.ntmps20
  go_wp2_with (go_at_call 25; refine (new5_any _).mono ?_; rintro e w1 ⟨rfl, hM, hb⟩)
  have hW1 : Calls Try.prog 27 #[.pointer (some ⟨w.heap.size, 0, none⟩), .int .i64 3, .int .u64 0, .agg #[.int .i64 5, .slice none 0 0]] w1 _ :=
    write_yes w.heap.size 3 _ _ 0 5 none 0 [] w1 hM (SlAt.nil _ _) (fun j hj => by obtain ⟨x, hx, _⟩ := hj; cases hx) (Nat.zero_le _) (by decide) (by decide) rfl
  clear hM
  refine hW1.mono ?_
  rintro e w2 ⟨rfl, hM2, hb2⟩
  have hW2 : Calls Try.prog 27 #[.pointer (some ⟨w.heap.size, 0, none⟩), .int .i64 3, .int .u64 0, .agg #[.int .i64 0, .slice none 0 0]] w2 _ :=
    write_no w.heap.size _ _ 3 0 0 (.slice none 0 0) w2 hM2 (by decide)
  clear hW1
  go_wp2_with fail
  refine hW2.mono ?_
  rintro e w3 ⟨rfl, hb3⟩
  have hM3 := hM2.below hb3
  have hbb : Below w.heap.size w w3 := (hb.trans (hb2.below hb.size (fun k e => by omega))).trans (hb3.mono (by have := hb.size; have := hb2.size; omega))
  have hL := len5_any _ _ _ _ hM3
  have hC := clock5_any _ _ _ _ hM3
  have hR := hidq (fun W (hW : But (fun _ => False) w3 W) => read5_any _ _ _ 3 _ (hM3.but hW (fun _ _ e => e)))
  rw [show ((Mem.put Mem.empty 3 5 []).len : Int) = 4 from rfl] at hL
  rw [show ((Mem.put Mem.empty 3 5 []).clock : Int) = 1 from rfl] at hC
  rw [show (Mem.put Mem.empty 3 5 []).look 3 = ⟨1, 5, []⟩ from rfl] at hR
  clear hW2 hM2 hM3 hb hb2 hb3
  have hf0 := fldC_0
  have hf1 := fldC_1
  have hf2 := fldV_0
  go_wp2_with (first
    | (go_at_call 53; refine hL.mono ?_; rintro e w4 ⟨rfl, hw⟩; replace hw := hw.symm; subst hw)
    | (go_at_call 30; refine hC.mono ?_; rintro e w4 ⟨rfl, hw⟩; replace hw := hw.symm; subst hw))
  refine (hR.out _ (But.refl _ _)).mono ?_
  rintro e w4 ⟨a4, c4, rfl, _, _, hb4⟩
  go_wp2_with fail
  refine (hR.out _ (But.of_below hb4)).mono ?_
  rintro e w5 ⟨a5, c5, rfl, _, _, hb5⟩
  go_wp2
  go_ret
  exact ⟨rfl, (hbb.trans (hb4.mono hbb.size)).trans (hb5.mono (by have := hbb.size; have := hb4.size; omega))⟩
end Go.Proofs.Ytepigofpcjmddaa

namespace Go.Proofs.Ytepigofpcjmddaa
open Go.RowKit Go.Sort

/-- The cells that are asked for at the end. -/
def zs5 (o : Int) : List Int := [0, 1, 2, 3, 4, 5, 6, 7, 8, 9, o, -1, 1000]
theorem zs5_cells (o : Int) : (zs5 o).map (fun z => (.int .i64 z : Value)) = [.int .i64 0, .int .i64 1, .int .i64 2, .int .i64 3, .int .i64 4, .int .i64 5, .int .i64 6, .int .i64 7, .int .i64 8, .int .i64 9, .int .i64 o, .int .i64 (-1), .int .i64 1000] := rfl
theorem look_few5 {w : World} {b : Nat} {O : Nat → Prop} {M : Mem} (h : MemAt w b O M) (i : Int) : (M.look i).L.length ≤ 1000000 := by
  unfold Mem.look
  split
  · exact Nat.zero_le _
  · exact h.few _

set_option maxRecDepth 20000 in
set_option maxHeartbeats 8000000 in
theorem cellPlays_any (a : Option Addr) (n cap : Nat) (o : Int) (w : World) (h : Acts w a n) :
    Calls Try.prog 4 #[.slice a n cap, .int .i64 o] w fun e w' => e = .returned (.bool true) ∧ Below w.heap.size w w' := by
  have HA := hidq h
  clear h
  go_enter Try.func4, Try.ntmps4
  go_wp2_with fail
  refine (awake5_any w).mono ?_
  rintro e w1 ⟨rfl, hb1⟩
  have hPl := hidq (play5_any a n cap w1 (HA.out.below hb1))
  have HB1 := hidq hb1
  clear hb1 HA
  go_wp2_with fail
  refine hPl.out.mono ?_
  rintro e w2 ⟨b, O, M, ra, rc, ps, rfl, hM, hR, hRel, hp4, hb2⟩
  obtain ⟨pn, hpn⟩ : ∃ pn, ps.length = pn := ⟨_, rfl⟩
  rw [hpn] at hp4
  rw [hpn]
  obtain ⟨b6, hb6⟩ : ∃ b6, w2.heap.size = b6 := ⟨_, rfl⟩
  obtain ⟨w3, hw3⟩ : ∃ w3, w2.alloc (.cells #[.slice ra pn rc] 53) = w3 := ⟨_, rfl⟩
  obtain ⟨gz, hgz⟩ : ∃ gz, w3.heap.size = gz := ⟨_, rfl⟩
  obtain ⟨w4, hw4⟩ : ∃ w4, w3.alloc (.cells #[.int .i64 0, .int .i64 1, .int .i64 2, .int .i64 3, .int .i64 4, .int .i64 5, .int .i64 6, .int .i64 7, .int .i64 8, .int .i64 9, .int .i64 o, .int .i64 (-1), .int .i64 1000] 3) = w4 := ⟨_, rfl⟩
  have H4 := hidq (show (MemAt w4 b O M ∧ RefAt w4 ra rc ps ∧ Rel M ps ∧ ps.length = pn) ∧ BoxAt w4 b6 [.slice ra pn rc] ∧ BoxAt w4 gz ((zs5 o).map (fun z => (.int .i64 z : Value))) ∧ Below w.heap.size w w4 from by
    have hba : Below w2.heap.size w2 w3 := by rw [← hw3]; exact (Below.refl _ _).alloc (Nat.le_refl _) _
    have hbc : Below w3.heap.size w3 w4 := by rw [← hw4]; exact (Below.refl _ _).alloc (Nat.le_refl _) _
    have hx : BoxAt w3 b6 [.slice ra pn rc] := by rw [← hw3, ← hb6]; exact BoxAt.new w2 _ _
    have hbw := HB1.out.trans (hb2.mono HB1.out.size)
    have hbw2 := hbw.trans (hba.mono hbw.size)
    exact ⟨⟨(hM.below hba).below hbc, (hR.below hba).below hbc, hRel, hpn⟩, hx.below hbc, by rw [zs5_cells, ← hw4, ← hgz]; exact BoxAt.new w3 _ _, hbw2.trans (hbc.mono hbw2.size)⟩)
  clear hM hR hRel hb2 hPl HB1 hpn
  go_wp2_with fail
  try rw [hw3]
  try rw [hb6]
  try rw [hw4]
  try rw [hgz]
  clear hw3 hw4 hb6 hgz
  go_loopw [26] (fun s26 wr => ∃ j : Nat, s26 = .int .i64 (j : Int) ∧ j ≤ 13 ∧ Hid (Below w4.heap.size w4 wr)) (fun s26 _ => 13 - (intOf s26).toNat)
  case atStart => exact ⟨0, rfl, Nat.zero_le _, hidq (Below.refl _ _)⟩
  case round =>
    obtain ⟨j, rfl, hj, HT⟩ := hrel
    by_cases hlt : j < 13
    · have hltI : (j : Int) < 13 := by omega
      obtain ⟨z, hz⟩ : ∃ z, ((zs5 o).map (fun z => (.int .i64 z : Value)))[j]? = some (.int .i64 z) := by
        rw [List.getElem?_map]
        have : j < (zs5 o).length := hlt
        rw [List.getElem?_eq_getElem this]
        exact ⟨_, rfl⟩
      have mz := ((H4.out.2.2.1.below HT.out).get j _ hz).1
      have m6 := ((H4.out.2.1.below HT.out).get 0 _ rfl).1
      obtain ⟨vr, x, L, hrd⟩ : ∃ (vr : Nat) (x : Int) (L : List KI), rread ps z pn = (vr, (z, x, L)) ∨ (rread ps z pn).1 = vr ∧ (rread ps z pn).2.x = x ∧ (rread ps z pn).2.L = L := ⟨_, _, _, .inr ⟨rfl, rfl, rfl⟩⟩
      obtain ⟨h1, h2, h3⟩ : (rread ps z pn).1 = vr ∧ (rread ps z pn).2.x = x ∧ (rread ps z pn).2.L = L := by
        rcases hrd with e | e
        · rw [e]; exact ⟨rfl, rfl, rfl⟩
        · exact e
      have hlk : M.look z = ⟨(vr : Int), x, kts L⟩ := by
        have := H4.out.1.2.2.1.at_ z
        rw [H4.out.1.2.2.2, h1, h2, h3] at this
        exact this
      have hvr : vr ≤ 40 := by have := rread_le ps z pn; omega
      have hcv : IntKind.u64.wrap (vr : Int) = (vr : Int) := by rw [u64_wrap5]; omega
      obtain ⟨ln, hln⟩ : ∃ ln, L.length = ln := ⟨_, rfl⟩
      have hlf := look_few5 H4.out.1.1 z
      rw [hlk] at hlf
      dsimp only at hlf
      rw [kts_length, hln] at hlf
      have hR := hidq (rread5_any ra rc pn ps z wr (H4.out.1.2.1.below HT.out) H4.out.1.2.2.2 (by omega))
      rw [h1, h2, h3, hln] at hR
      have HLK := hidq hlk
      have HLN := hidq hln
      clear hrd h1 h2 h3 hlk hln hz
      go_wp2_with fail
      refine hR.out.mono ?_
      rintro e w5 ⟨s5, c5, rfl, hS5, hb5⟩
      obtain ⟨b11, hb11⟩ : ∃ b11, w5.heap.size = b11 := ⟨_, rfl⟩
      obtain ⟨w6, hw6⟩ : ∃ w6, w5.alloc (.cells #[.int .i64 x, .slice s5 ln c5] 58) = w6 := ⟨_, rfl⟩
      have H6 := hidq (show Below w4.heap.size w4 w6 ∧ SlAt 2 w6 s5 c5 ln (flatR L) ∧ BoxAt w6 b11 [.int .i64 x, .slice s5 ln c5] from by
        have hba : Below w5.heap.size w5 w6 := by rw [← hw6]; exact (Below.refl _ _).alloc (Nat.le_refl _) _
        have hb4 := HT.out.trans (hb5.mono HT.out.size)
        exact ⟨hb4.trans (hba.mono hb4.size), hS5.below hba, by rw [← hw6, ← hb11]; exact BoxAt.new w5 _ _⟩)
      have hRd0 := read5_any b O M z w6 (H4.out.1.1.below H6.out.1)
      rw [HLK.out] at hRd0
      dsimp only at hRd0
      rw [kts_length, HLN.out] at hRd0
      have hRd := hidq hRd0
      clear hRd0 hS5 hb5 hR mz m6
      go_wp2_with fail
      try rw [hw6]
      try rw [hb11]
      clear hw6 hb11
      refine hRd.out.mono ?_
      rintro e w7 ⟨a7, c7, rfl, hS7, hf7, hb7⟩
      obtain ⟨b12, hb12⟩ : ∃ b12, w7.heap.size = b12 := ⟨_, rfl⟩
      obtain ⟨w8, hw8⟩ : ∃ w8, w7.alloc (.cells #[.int .u64 (vr : Int), .int .i64 x, .slice a7 ln c7] 64) = w8 := ⟨_, rfl⟩
      have H8 := hidq (show Below w4.heap.size w4 w8 ∧ SlAt 2 w8 s5 c5 ln (flatR L) ∧ BoxAt w8 b11 [.int .i64 x, .slice s5 ln c5] ∧ SlAt 2 w8 a7 c7 ln (flatI (kts L)) ∧ BoxAt w8 b12 [.int .u64 (vr : Int), .int .i64 x, .slice a7 ln c7] from by
        have hba : Below w7.heap.size w7 w8 := by rw [← hw8]; exact (Below.refl _ _).alloc (Nat.le_refl _) _
        have hb68 : Below w6.heap.size w6 w8 := hb7.trans (hba.mono hb7.size)
        exact ⟨H6.out.1.trans (hb68.mono H6.out.1.size), H6.out.2.1.below hb68, H6.out.2.2.below hb68, hS7.below hba, by rw [← hw8, ← hb12]; exact BoxAt.new w7 _ _⟩)
      have mb0 := (H8.out.2.2.1.get 0 _ rfl).1
      have mb1 := (H8.out.2.2.1.get 1 _ rfl).1
      have mc0 := (H8.out.2.2.2.2.get 0 _ rfl).1
      have mc1 := (H8.out.2.2.2.2.get 1 _ rfl).1
      have mc2 := (H8.out.2.2.2.2.get 2 _ rfl).1
      have hIs := hidq (is5_any x a7 s5 c7 c5 ln L w8 HLN.out H8.out.2.2.2.1 H8.out.2.1 hlf)
      clear hS7 hf7 hb7 hRd H6
      go_wp2_with fail
      try rw [hw8]
      refine hIs.out.mono ?_
      rintro e w9 ⟨rfl, hb9⟩
      have HN := hidq (show Below w4.heap.size w4 w9 from H8.out.1.trans (hb9.mono H8.out.1.size))
      clear hb9 hIs mb0 mb1 mc0 mc1 mc2 hw8 hb12
      go_wp2_with fail
      exact ⟨⟨j + 1, by push_cast; rfl, by omega, HN⟩, by simp [intOf]; omega⟩
    · have hj13 : j = 13 := by omega
      subst hj13
      have HE := hidq (show Below w.heap.size w wr from H4.out.2.2.2.trans (HT.out.mono H4.out.2.2.2.size))
      clear H4 HT
      go_wp2_with fail
      go_ret
      exact ⟨rfl, HE.out⟩
end Go.Proofs.Ytepigofpcjmddaa
