/-
  Through the layers: of one slot what came goes in that order: the call returns true.
-/
import Derived.Test.YtclcmabohpoaiaaLive8All
import Derived.Test.YtclcmabohpoaiaaInts7
namespace Go.Proofs.Ytclcmabohpoaiaa
open Go.RowKit Go.Sort

def queue10R (mb db g off n cap k : Nat) (P V Z : Nat → Int) (A : Ans) : List (Value → Ar.Gh → World → Prop) :=
  [fun u0 _ _ => u0 = .agg #[.int .i64 1],
   fun u0 _ _ => u0 = .iface 57 (.agg #[.int .i64 1]),
   fun u0 _ _ => u0 = .pointer (some ⟨mb, 0, none⟩),
   fun u0 _ _ => u0 = .slice (some ⟨g, off, none⟩) n cap,
   fun u0 _ _ => u0 = .int .i64 (k : Int),
   fun u0 _ _ => u0 = .pointer (some ⟨g, off + k * 2, none⟩),
   fun u0 _ _ => u0 = .agg #[.int .u64 (P k), .int .i64 (V k)],
   fun u0 _ _ => u0 = .agg #[.float .f64 (nf (P k)), .int .i64 (V k)],
   fun u0 _ _ => u0 = .func (.func 22) #[] #[.pointer (some ⟨db, 0, none⟩)],
   fun u0 _ _ => u0 = .int .i64 (k : Int),
   fun u0 _ _ => u0 = .agg #[.int .i64 (Z k), .int .i64 (k : Int)],
   fun u0 _ _ => u0 = .agg #[.int .i64 3, .float .f64 (nf (P k)), .int .i64 (V k), .int .i64 (Z k), .int .i64 (k : Int)],
   fun u0 _ _ => u0 = .tuple #[.agg #[.bool A.ok, .float .f64 A.pri, .int .i64 A.val, .int .i64 A.n], .bool true],
   fun u0 _ _ => u0 = .tuple #[.agg #[.bool A.ok, .float .f64 A.pri, .int .i64 A.val, .int .i64 A.n], .bool true],
   fun u0 _ _ => u0 = .agg #[.bool A.ok, .float .f64 A.pri, .int .i64 A.val, .int .i64 A.n],
   fun u0 _ _ => u0 = .bool true,
   fun u0 x _ => ∃ bx, x.2 = some bx ∧ u0 = .pointer (some ⟨bx, 0, none⟩),
   fun _ _ _ => True,
   fun u0 _ _ => u0 = .bool true]
theorem queue10R_kept (mb db g off n cap k : Nat) (P V Z : Nat → Int) (A : Ans) : Reg.GAllKept Ar.Pres (queue10R mb db g off n cap k P V Z A) :=
  ⟨(fun _ _ _ _ _ _ h => h), (fun _ _ _ _ _ _ h => h), (fun _ _ _ _ _ _ h => h), (fun _ _ _ _ _ _ h => h), (fun _ _ _ _ _ _ h => h), (fun _ _ _ _ _ _ h => h), (fun _ _ _ _ _ _ h => h), (fun _ _ _ _ _ _ h => h), (fun _ _ _ _ _ _ h => h), (fun _ _ _ _ _ _ h => h), (fun _ _ _ _ _ _ h => h), (fun _ _ _ _ _ _ h => h), (fun _ _ _ _ _ _ h => h), (fun _ _ _ _ _ _ h => h), (fun _ _ _ _ _ _ h => h), (fun _ _ _ _ _ _ h => h), (fun _ _ _ _ _ hp h => by obtain ⟨bx, h1, h2⟩ := h; exact ⟨bx, hp bx h1, h2⟩), (fun _ _ _ _ _ _ h => h), (fun _ _ _ _ _ _ h => h), trivial⟩
def queue18R (mb db j : Nat) (Z : Nat → Int) (A : Ans) : List (Value → Ar.Gh → World → Prop) :=
  [fun u0 _ _ => u0 = .agg #[.int .i64 1],
   fun u0 _ _ => u0 = .iface 57 (.agg #[.int .i64 1]),
   fun u0 _ _ => u0 = .pointer (some ⟨mb, 0, none⟩),
   fun u0 _ _ => u0 = .func (.func 22) #[] #[.pointer (some ⟨db, 0, none⟩)],
   fun u0 _ _ => u0 = .int .i64 (j : Int),
   fun u0 _ _ => u0 = .agg #[.int .i64 (Z j), .int .i64 (j : Int)],
   fun u0 _ _ => u0 = .agg #[.int .i64 4, .float .f64 0, .int .i64 0, .int .i64 (Z j), .int .i64 (j : Int)],
   fun u0 _ _ => u0 = .tuple #[.agg #[.bool A.ok, .float .f64 A.pri, .int .i64 A.val, .int .i64 A.n], .bool true],
   fun u0 _ _ => u0 = .tuple #[.agg #[.bool A.ok, .float .f64 A.pri, .int .i64 A.val, .int .i64 A.n], .bool true],
   fun u0 _ _ => u0 = .agg #[.bool A.ok, .float .f64 A.pri, .int .i64 A.val, .int .i64 A.n],
   fun u0 _ _ => u0 = .bool true,
   fun u0 x _ => ∃ bx, x.2 = some bx ∧ u0 = .pointer (some ⟨bx, 0, none⟩),
   fun _ _ _ => True,
   fun u0 _ _ => u0 = .bool true]
theorem queue18R_kept (mb db j : Nat) (Z : Nat → Int) (A : Ans) : Reg.GAllKept Ar.Pres (queue18R mb db j Z A) :=
  ⟨(fun _ _ _ _ _ _ h => h), (fun _ _ _ _ _ _ h => h), (fun _ _ _ _ _ _ h => h), (fun _ _ _ _ _ _ h => h), (fun _ _ _ _ _ _ h => h), (fun _ _ _ _ _ _ h => h), (fun _ _ _ _ _ _ h => h), (fun _ _ _ _ _ _ h => h), (fun _ _ _ _ _ _ h => h), (fun _ _ _ _ _ _ h => h), (fun _ _ _ _ _ _ h => h), (fun _ _ _ _ _ hp h => by obtain ⟨bx, h1, h2⟩ := h; exact ⟨bx, hp bx h1, h2⟩), (fun _ _ _ _ _ _ h => h), (fun _ _ _ _ _ _ h => h), trivial⟩
def draw3R (i b2 o2 n2 c2 m : Nat) (z : Int) : List (Value → World → Prop) :=
  [fun v _ => v = .slice (some ⟨b2, o2, none⟩) n2 c2,
   fun v _ => v = .int .i64 (i : Int),
   fun v _ => v = .slice (some ⟨b2, o2, none⟩) n2 c2,
   fun v _ => v = .int .i64 (n2 : Int),
   fun v _ => v = .int .i64 (m : Int),
   fun v _ => v = .pointer (some ⟨b2, o2 + m, none⟩),
   fun v _ => v = .int .i64 z,
   fun v _ => v = .int .i64 (i : Int),
   fun v _ => v = .agg #[.int .i64 z, .int .i64 (i : Int)]]
theorem draw3R_kept (i b2 o2 n2 c2 m : Nat) (z : Int) : Reg.AllKept Reg.Keeps (draw3R i b2 o2 n2 c2 m z) :=
  ⟨(fun _ _ _ _ h => h), (fun _ _ _ _ h => h), (fun _ _ _ _ h => h), (fun _ _ _ _ h => h), (fun _ _ _ _ h => h), (fun _ _ _ _ h => h), (fun _ _ _ _ h => h), (fun _ _ _ _ h => h), (fun _ _ _ _ h => h), trivial⟩

/-- What is drawn. -/
def drw (Z : Nat → Int) (n i : Nat) : Int := if n = 0 then (i : Int) else Z (i % n)
set_option maxRecDepth 20000 in
set_option maxHeartbeats 4000000 in
theorem draw_any (a2 : Option Addr) (n2 c2 db i : Nat) (Z2 : Nat → Int) (w : World) (hc : w.cell? ⟨db, 0, none⟩ = some (.slice a2 n2 c2)) (hl : db < w.heap.size) (hI : IntsIn w a2 n2 Z2) (hn : n2 ≤ 9223372036854775807) (_hi : i ≤ 1000) :
    Calls Try.prog 22 #[.int .i64 (i : Int), .pointer (some ⟨db, 0, none⟩)] w fun e w' => e = .returned (.agg #[.int .i64 (drw Z2 n2 i), .int .i64 (i : Int)]) ∧ Below w.heap.size w w' := by
  obtain ⟨rb, hrb⟩ : ∃ rb, w.heap.size = rb := ⟨_, rfl⟩
  obtain ⟨W1, hW1', hb1, hs1, hB1⟩ := one_new w [.int .i64 0, .int .i64 0] 36
  have hW1 : w.alloc (.cells #[.int .i64 0, .int .i64 0] 36) = W1 := hW1'
  rw [hrb] at hB1 hs1
  have c0 := (hb1.cell (p := ⟨db, 0, none⟩) hl).trans hc
  have hl1 : db < W1.heap.size := Nat.lt_of_lt_of_le hl hb1.size
  obtain ⟨r0, y0⟩ := hB1.get 0 _ rfl
  obtain ⟨r1, y1⟩ := hB1.get 1 _ rfl
  have hrl := hB1.lt
  have FIN := hidq (fun (q : Nat) (v : Int) => (show BoxAt (setBox (W1.drewN q) rb [(0, .int .i64 v), (1, .int .i64 (i : Int))]) rb [.int .i64 v, .int .i64 (i : Int)] ∧ Below w.heap.size w (setBox (W1.drewN q) rb [(0, .int .i64 v), (1, .int .i64 (i : Int))]) from
    ⟨setBox_box [(0, .int .i64 v), (1, .int .i64 (i : Int))] (hB1.drewN q), (below_drewN hb1 q).trans ((setBox_but rb [(0, .int .i64 v), (1, .int .i64 (i : Int))] (W1.drewN q)).below (by have := hb1.size; exact this) (fun j e => by omega))⟩))
  by_cases h0 : n2 = 0
  · subst h0
    have hd : drw Z2 0 i = (i : Int) := if_pos rfl
    rw [hd]
    obtain ⟨e1, e2⟩ := FIN.out 0 (i : Int)
    have q0 : ((W1.setCell ⟨rb, 0, none⟩ (.int .i64 (i : Int))).setCell ⟨rb, 1, none⟩ (.int .i64 (i : Int))).cell? ⟨rb, 0, none⟩ = some (.int .i64 (i : Int)) := (e1.get 0 _ rfl).1
    have q1 : ((W1.setCell ⟨rb, 0, none⟩ (.int .i64 (i : Int))).setCell ⟨rb, 1, none⟩ (.int .i64 (i : Int))).cell? ⟨rb, 1, none⟩ = some (.int .i64 (i : Int)) := (e1.get 1 _ rfl).1
    have E2 := hidq e2
    clear hB1 hb1 hI FIN hc e1 e2 hW1'
    go_enter Try.func22, Try.ntmps22
    go_wp2_with fail
    exact bodyPost_ret (v := .agg #[.int .i64 (i : Int), .int .i64 (i : Int)]) (by simp [results, Try.results22, go_sem, q0, q1]) rfl ⟨rfl, E2.out⟩
  · have hd : drw Z2 n2 i = Z2 (i % n2) := if_neg h0
    rw [hd]
    have hlt : i % n2 < n2 := Nat.mod_lt _ (by omega)
    obtain ⟨b2, o2, ha2, hb2l, hc2⟩ := hI.below hb1 (i % n2) hlt
    subst ha2
    obtain ⟨z, hz⟩ : ∃ z, Z2 (i % n2) = z := ⟨_, rfl⟩
    rw [hz] at hc2 ⊢
    have hn3 : (0 : Int) < (n2 : Int) := by omega
    have hn4 : ((n2 : Int) == 0) = false := by simp; omega
    have hn5 : ¬ (n2 : Int) = 0 := by omega
    obtain ⟨m, hm⟩ : ∃ m, i % n2 = m := ⟨_, rfl⟩
    rw [hm] at hc2 hlt
    have HMM := hidq (show (i : Int).tmod (n2 : Int) = (m : Int) ∧ (m : Int) < 9223372036854775807 from ⟨by rw [← hm]; rfl, by omega⟩)
    have hmt : (i : Int).tmod (n2 : Int) = (m : Int) := HMM.out.1
    have hmlt : (m : Int) < (n2 : Int) := by omega
    have FC := hidq (fun W (hW : Below W1.heap.size W1 W) => And.intro ((hW.cell (p := ⟨db, 0, none⟩) hl1).trans c0) ((hW.cell (p := ⟨b2, o2 + m, none⟩) hb2l).trans hc2))
    have hrefl : ∀ w : World, Reg.Keeps w w := Reg.Keeps.refl
    have HB1 := hidq (And.intro hB1 hb1)
    clear hB1 hb1 hI FIN hc hW1' hz hm r0 y0 r1 y1
    go_enter Try.func22, Try.ntmps22
    go_wp2_with fail
    have hrefl : ∀ w : World, Reg.Keeps w w := Reg.Keeps.refl
    refine Reg.wp_region_props_tail 9 (Reg.ofList (draw3R i b2 o2 n2 c2 m z)) Reg.Keeps (fun _ w => Reg.Keeps W1 w) (by kernel_rfl) (by kernel_rfl) (by kernel_rfl) (Reg.AllKept.at _ (draw3R_kept i b2 o2 n2 c2 m z)) hrefl (Reg.Keeps.drewN (Reg.Keeps.refl _) 1) ⟨?_, ?_, ?_, ?_, ?_, ?_, ?_, ?_, ?_, trivial⟩ ?_
    · refine Reg.StepAt.plain (i := 0) rfl ?_
      intro L ev w hI hk hp hA
      have e1 : ev (.tmp 1) = .pointer (some ⟨db, 0, none⟩) := hA.oldNone 1 (by kernel_rfl)
      have hcc := hA.const
      clear hA hp
      obtain ⟨f0, f1⟩ := FC.out w hI
      refine Reg.out_value (v := .slice (some ⟨b2, o2, none⟩) n2 c2) ?_ ⟨rfl, hrefl _, hI⟩
      go_simp
    · refine Reg.StepAt.plain (i := 1) rfl ?_
      intro L ev w hI hk hp hA
      have e0 : ev (.tmp 0) = .int .i64 (i : Int) := hA.oldNone 0 (by kernel_rfl)
      have hcc := hA.const
      clear hA hp
      refine Reg.out_value (v := .int .i64 (i : Int)) ?_ ⟨rfl, hrefl _, hI⟩
      go_simp
    · refine Reg.StepAt.plain (i := 2) rfl ?_
      intro L ev w hI hk hp hA
      have e1 : ev (.tmp 1) = .pointer (some ⟨db, 0, none⟩) := hA.oldNone 1 (by kernel_rfl)
      have hcc := hA.const
      clear hA hp
      obtain ⟨f0, f1⟩ := FC.out w hI
      refine Reg.out_value (v := .slice (some ⟨b2, o2, none⟩) n2 c2) ?_ ⟨rfl, hrefl _, hI⟩
      go_simp
    · refine Reg.StepAt.plain (i := 3) rfl ?_
      intro L ev w hI hk hp hA
      have e12 : ev (.tmp 12) = .slice (some ⟨b2, o2, none⟩) n2 c2 := hA.val 2 _ 12 rfl (hp ⟨2, .data⟩ (by simp) rfl) rfl
      have hcc := hA.const
      clear hA hp
      refine Reg.out_value (v := .int .i64 (n2 : Int)) ?_ ⟨rfl, hrefl _, hI⟩
      go_simp
    · refine Reg.StepAt.plain (i := 4) rfl ?_
      intro L ev w hI hk hp hA
      have e11 : ev (.tmp 11) = .int .i64 (i : Int) := hA.val 1 _ 11 rfl (hp ⟨1, .data⟩ (by simp) rfl) rfl
      have e13 : ev (.tmp 13) = .int .i64 (n2 : Int) := hA.val 3 _ 13 rfl (hp ⟨3, .data⟩ (by simp) rfl) rfl
      have hcc := hA.const
      clear hA hp
      refine Reg.out_value (v := .int .i64 (m : Int)) ?_ ⟨rfl, hrefl _, hI⟩
      (go_simp <;> (rw [IntKind.wrap_i64]; have := HMM.out; omega))
    · refine Reg.StepAt.plain (i := 5) rfl ?_
      intro L ev w hI hk hp hA
      have e10 : ev (.tmp 10) = .slice (some ⟨b2, o2, none⟩) n2 c2 := hA.val 0 _ 10 rfl (hp ⟨0, .data⟩ (by simp) rfl) rfl
      have e14 : ev (.tmp 14) = .int .i64 (m : Int) := hA.val 4 _ 14 rfl (hp ⟨4, .data⟩ (by simp) rfl) rfl
      have hcc := hA.const
      clear hA hp
      refine Reg.out_value (v := .pointer (some ⟨b2, o2 + m, none⟩)) ?_ ⟨rfl, hrefl _, hI⟩
      go_simp
    · refine Reg.StepAt.plain (i := 6) rfl ?_
      intro L ev w hI hk hp hA
      have e15 : ev (.tmp 15) = .pointer (some ⟨b2, o2 + m, none⟩) := hA.val 5 _ 15 rfl (hp ⟨5, .data⟩ (by simp) rfl) rfl
      have hcc := hA.const
      clear hA hp
      obtain ⟨f0, f1⟩ := FC.out w hI
      refine Reg.out_value (v := .int .i64 z) ?_ ⟨rfl, hrefl _, hI⟩
      go_simp
    · refine Reg.StepAt.plain (i := 7) rfl ?_
      intro L ev w hI hk hp hA
      have e0 : ev (.tmp 0) = .int .i64 (i : Int) := hA.oldNone 0 (by kernel_rfl)
      have hcc := hA.const
      clear hA hp
      refine Reg.out_value (v := .int .i64 (i : Int)) ?_ ⟨rfl, hrefl _, hI⟩
      go_simp
    · refine Reg.StepAt.plain (i := 8) rfl ?_
      intro L ev w hI hk hp hA
      have e16 : ev (.tmp 16) = .int .i64 z := hA.val 6 _ 16 rfl (hp ⟨6, .data⟩ (by simp) rfl) rfl
      have e17 : ev (.tmp 17) = .int .i64 (i : Int) := hA.val 7 _ 17 rfl (hp ⟨7, .data⟩ (by simp) rfl) rfl
      have hcc := hA.const
      clear hA hp
      refine Reg.out_value (v := .agg #[.int .i64 z, .int .i64 (i : Int)]) ?_ ⟨rfl, hrefl _, hI⟩
      go_simp
    intro act wz hI hF
    have g10 : act.eval (.tmp 10) = .slice (some ⟨b2, o2, none⟩) n2 c2 := hF.val 0 _ 10 rfl (by kernel_rfl) rfl
    have g11 : act.eval (.tmp 11) = .int .i64 (i : Int) := hF.val 1 _ 11 rfl (by kernel_rfl) rfl
    have g12 : act.eval (.tmp 12) = .slice (some ⟨b2, o2, none⟩) n2 c2 := hF.val 2 _ 12 rfl (by kernel_rfl) rfl
    have g13 : act.eval (.tmp 13) = .int .i64 (n2 : Int) := hF.val 3 _ 13 rfl (by kernel_rfl) rfl
    have g14 : act.eval (.tmp 14) = .int .i64 (m : Int) := hF.val 4 _ 14 rfl (by kernel_rfl) rfl
    have g15 : act.eval (.tmp 15) = .pointer (some ⟨b2, o2 + m, none⟩) := hF.val 5 _ 15 rfl (by kernel_rfl) rfl
    have g16 : act.eval (.tmp 16) = .int .i64 z := hF.val 6 _ 16 rfl (by kernel_rfl) rfl
    have g17 : act.eval (.tmp 17) = .int .i64 (i : Int) := hF.val 7 _ 17 rfl (by kernel_rfl) rfl
    have g18 : act.eval (.tmp 18) = .agg #[.int .i64 z, .int .i64 (i : Int)] := hF.val 8 _ 18 rfl (by kernel_rfl) rfl
    have hact := hF.actHead [10, 11, 12, 13, 14, 15, 16, 17, 18] (by kernel_rfl)
    clear hF
    simp only [List.foldl_cons, List.foldl_nil] at hact
    rw [g10, g11, g12, g13, g14, g15, g16, g17, g18] at hact
    clear g10 g11 g12 g13 g14 g15 g16 g17 g18
    simp only [List.setIfInBounds_toArray, List.set_cons_succ, List.set_cons_zero] at hact
    subst hact
    simp only [List.drop_succ_cons, List.drop_zero]
    have hI1 : Below W1.heap.size W1 wz := hI
    have hBz := HB1.out.1.below hI1
    have hbz := HB1.out.2.trans (hI1.mono HB1.out.2.size)
    obtain ⟨r0, y0⟩ := hBz.get 0 _ rfl
    obtain ⟨r1, y1⟩ := hBz.get 1 _ rfl
    have e1 := setBox_box [(0, .int .i64 z), (1, .int .i64 (i : Int))] hBz
    have e2 := hbz.trans ((setBox_but rb [(0, .int .i64 z), (1, .int .i64 (i : Int))] wz).below hbz.size (fun j e => by omega))
    dsimp only [setBox] at e1 e2
    have q0 := (e1.get 0 _ rfl).1
    have q1 := (e1.get 1 _ rfl).1
    have E2 := hidq e2
    clear hI hI1 hBz hbz e1 e2 HB1 FC
    go_wp2_with fail
    exact bodyPost_ret (v := .agg #[.int .i64 z, .int .i64 (i : Int)]) (by simp [results, Try.results22, go_sem, q0, q1]) rfl ⟨rfl, hrb ▸ E2.out⟩

/-- What came, in that order. -/
def kseq (P V : Nat → Int) (k : Nat) : List KI := (List.range k).map (kiOf P V)
theorem kseq_length (P V : Nat → Int) (k : Nat) : (kseq P V k).length = k := by simp [kseq]
theorem kseq_succ (P V : Nat → Int) (k : Nat) : kseq P V (k + 1) = kseq P V k ++ [kiOf P V k] := by simp [kseq, List.range_succ]
/-- While items come: so many have come. -/
def CQ1 (w : World) (sb mb : Nat) (P V : Nat → Int) (k gr cr : Nat) (wr : World) : Prop :=
  ∃ (O : Nat → Prop) (M : Mem) (h t : Nat), St w wr sb [.int .i64 1] mb O M ∧ QI 1 M h t (kseq P V k) ∧ t ≤ k ∧ M.clock ≤ 30 * k ∧ w.heap.size ≤ gr ∧ ¬ O gr ∧ gr ≠ sb ∧ Flat 2 wr gr cr k (flatR (kseq P V k))
/-- While they go: so many have gone. -/
def CQ2 (w : World) (sb mb : Nat) (K : List KI) (k gr cr j gg cg : Nat) (wr : World) : Prop :=
  ∃ (O : Nat → Prop) (M : Mem) (h t : Nat), St w wr sb [.int .i64 1] mb O M ∧ QI 1 M h t (K.drop j) ∧ t ≤ k + j ∧ M.clock ≤ 30 * (k + j) ∧ w.heap.size ≤ gg ∧ ¬ O gg ∧ gg ≠ gr ∧ gg ≠ sb ∧ Flat 2 wr gg cg (min j k) (flatI (kit (K.take j))) ∧ ¬ O gr ∧ Flat 2 wr gr cr k (flatR K)

set_option maxRecDepth 20000 in
set_option maxHeartbeats 16000000 in
theorem queue_all (a : Option Addr) (n cap : Nat) (P V : Nat → Int) (a2 : Option Addr) (n2 c2 : Nat) (Z2 : Nat → Int) (wi : World) (hr0 : Raws wi a n P V) (hi0 : IntsIn wi a2 n2 Z2) (hn2 : n2 ≤ 9223372036854775807) :
    Calls Try.prog 6 #[.slice a n cap, .slice a2 n2 c2] wi fun e w' => e = .returned (.bool true) ∧ Below wi.heap.size wi w' := by
  have hsf := run_store_flt (P := Try.prog)
  have hmf : ∀ (fn : Fn) (first cap : Array Value) (w : World), (Instr.makeFunc fn first cap).run Try.prog w = .ok (.func fn first cap) w := fun _ _ _ _ => rfl
  obtain ⟨db, hdb⟩ : ∃ db, wi.heap.size = db := ⟨_, rfl⟩
  obtain ⟨w, hw', hbi, hsi, hDB⟩ := one_new wi [.slice a2 n2 c2] 63
  have hw : wi.alloc (.cells #[.slice a2 n2 c2] 63) = w := hw'
  rw [hdb] at hDB hsi
  have hr : Raws w a n P V := hr0.below hbi
  have hDr := hidq (fun W (hW : Below w.heap.size w W) (i : Nat) (hi : i ≤ 1000) => draw_any a2 n2 c2 db i Z2 W ((hDB.below hW).get 0 _ rfl).1 (hDB.below hW).lt ((hi0.below hbi).below hW) hn2 hi)
  obtain ⟨Z, hZ⟩ : ∃ Z : Nat → Int, (fun i => drw Z2 n2 i) = Z := ⟨_, rfl⟩
  have hDr : Hid (∀ W, Below w.heap.size w W → ∀ i : Nat, i ≤ 1000 → Calls Try.prog 22 #[.int .i64 (i : Int), .pointer (some ⟨db, 0, none⟩)] W fun e w' => e = .returned (.agg #[.int .i64 (Z i), .int .i64 (i : Int)]) ∧ Below W.heap.size W w') := by
    rw [← hZ]; exact hDr
  have HW0 := hidq hbi
  have HR := hidq hr
  have hN := fun W => knew_any 1 W
  rw [show knewV 1 = .agg #[.int .i64 1] from if_pos (by decide), show legal 2 1 = 0 by decide] at hN
  clear hr0 hi0 hDB hbi hw' hr hZ
  go_enter Try.func6, Try.ntmps6
  go_wp2_with fail
  refine (hN _).mono ?_
  rintro e w1 ⟨rfl, hb1⟩
  obtain ⟨sb, hsb⟩ : ∃ sb, w1.heap.size = sb := ⟨_, rfl⟩
  obtain ⟨W1, hW1', hbW, hsW, hB1⟩ := one_new w1 [.int .i64 1] 57
  have hW1 : w1.alloc (.cells #[.int .i64 1] 57) = W1 := hW1'
  rw [hsb] at hB1 hsW
  have H1 := hidq (And.intro hB1 (And.intro (hb1.trans (hbW.mono hb1.size)) (And.intro hb1.size hsW)))
  clear hB1 hbW hsW hb1 hW1' hN
  go_wp2_with fail
  refine (live_any _).mono ?_
  rintro e w2 ⟨rfl, hb2⟩
  have H2 := hidq hb2
  clear hb2
  go_wp2_with fail
  refine (new5_any _).mono ?_
  rintro e w3 ⟨rfl, hM3, hb3⟩
  obtain ⟨mb, hmb⟩ : ∃ mb, w2.heap.size = mb := ⟨_, rfl⟩
  rw [hmb] at hM3 ⊢
  obtain ⟨hB1, hbw, hs1, hsW⟩ := H1.out
  have hb13 : Below W1.heap.size W1 w3 := H2.out.trans (hb3.mono H2.out.size)
  have hS0 : St w w3 sb [.int .i64 1] mb (fun k => k = mb) Mem.empty := by
    have := H2.out.size
    exact ⟨hM3, fun k e => by omega, hB1.below hb13, hbw.trans (hb13.mono hbw.size)⟩
  have hF0 : Flat 2 (w3.alloc (.cells #[] 45)) w3.heap.size 0 0 [] := Flat.new w3 [] 45 2 0 rfl (Nat.zero_le _) (fun _ h => (by cases h))
  have HT0 := hidq (show CQ1 w sb mb P V 0 w3.heap.size 0 (w3.alloc (.cells #[] 45)) from
    ⟨_, _, 0, 0, hS0.alloc _, QI.empty 1, Nat.le_refl _, Nat.le_refl _, hS0.low.size, fun e => by have := hS0.mem.lt _ e; omega, by have := hS0.box.lt; omega, hF0⟩)
  clear hS0 hF0 hB1 hbw hs1 hsW hM3 hb3 hb13 H1 H2 hmb hsb hW1
  go_wp2_with fail
  obtain ⟨g0, hg0⟩ : ∃ g0, w3.heap.size = g0 := ⟨_, rfl⟩
  obtain ⟨W4, hW4⟩ : ∃ W4, w3.alloc (.cells #[] 45) = W4 := ⟨_, rfl⟩
  rw [hg0, hW4] at HT0 ⊢
  clear hg0 hW4 hw
  go_loopw [9, 10] (fun s9 s10 wr => ∃ (k gr cr : Nat), s9 = .slice (some ⟨gr, 0, none⟩) k cr ∧ s10 = .int .i64 (k : Int) ∧ k ≤ n ∧ k ≤ 30 ∧ Hid (CQ1 w sb mb P V k gr cr wr)) (fun _ s10 _ => 30 - (intOf s10).toNat)
  case atStart => exact ⟨0, g0, 0, rfl, rfl, Nat.zero_le _, Nat.zero_le _, HT0⟩
  case round =>
    obtain ⟨k, gr, cr, rfl, rfl, hkn, hk30, hT⟩ := hrel
    obtain ⟨O, M, h, t, hS, hQ, ht, hclk, hgr, hOg, hgsb, hFl⟩ := hT.out
    clear HT0
    have HS := hidq hS
    by_cases hlt : k < n ∧ k < 30
    · obtain ⟨hl1, hl2⟩ := hlt
      have hl3 : (k : Int) < (n : Int) := by omega
      have hl4 : (k : Int) < 30 := by omega
      obtain ⟨g, off, ha, hgl, hc0, hc1, hp0, hp1⟩ := HR.out k hl1
      subst ha
      have hOw := hidq (fun w => own_any (P k) (V k) w)
      have hTo := hidq (fun w => told_any (P k) (V k) w hp0 hp1)
      have hnf : nf (P k) < 18446744073709551616 := by unfold nf; omega
      obtain ⟨M1, t1, hal, hQ1, ht1⟩ := enq_ok (k := 1) (nf (P k)) (V k) (Z k) (k : Int) 20 (by decide) hnf hQ (by decide) (by omega)
      have hcl := alone_clock (kFine 1 (by decide)) 20 M (Fr.of 3 (nf (P k)) (V k) (Z k) (k : Int))
      rw [show ((1 : Nat) : Int) = 1 from rfl] at hal
      rw [hal] at hcl
      obtain ⟨A, hA⟩ : ∃ A : Ans, A = ⟨true, cbits (nf (P k)), V k, 0⟩ := ⟨_, rfl⟩
      have hbase := aloneK_any 1 (kstep_is 1 (by decide)) (kFine 1 (by decide)) mb
      have HAl := hidq (fun W (O : Nat → Prop) (hM : MemAt W mb O M) => (show Calls Try.prog 13 #[.iface 57 (.agg #[.int .i64 1]), .pointer (some ⟨mb, 0, none⟩), .agg #[.int .i64 3, .float .f64 (nf (P k)), .int .i64 (V k), .int .i64 (Z k), .int .i64 (k : Int)], .int .i64 20] W fun e w' =>
            e = .returned (.tuple #[.agg #[.bool A.ok, .float .f64 A.pri, .int .i64 A.val, .int .i64 A.n], .bool true]) ∧ ∃ O', MemAt w' mb O' M1 ∧ Grown O W w' O' ∧ But O W w' from by
        have := hbase O M 3 (nf (P k)) (V k) (Z k) (k : Int) 20 W hM (kGood.start (by decide) 3 _ _ _ _ (.inl rfl) hnf hQ.km) (by decide) (by omega)
        rw [show (20 : Int).toNat = 20 from rfl, hal] at this
        rw [hA]
        exact this))
      have hAok : A.ok = true := by rw [hA]
      have FC := hidq (fun W (hW : Below w.heap.size w W) => And.intro ((hW.cell (p := ⟨g, off + k * 2, none⟩) hgl).trans hc0) ((hW.cell (p := ⟨g, off + k * 2 + 1, none⟩) hgl).trans hc1))
      have HFl := hidq (And.intro hFl (And.intro hOg (And.intro hgr (And.intro hgsb (And.intro (show QI 1 M1 h t1 (kseq P V (k + 1)) by rw [kseq_succ]; exact hQ1) (And.intro (show t1 ≤ k + 1 by omega) (show M1.clock ≤ 30 * (k + 1) by dsimp only at hcl; omega)))))))
      clear hFl hQ hclk hS hA hOg hc0 hc1 hal hQ1 ht1 hcl hbase ht hgr hgsb
      go_wp2_with fail
      refine Reg.wp_region_ghost (Reg.gofList (queue10R mb db g off n cap k P V Z A)) Ar.Pres (Ar.GI w wr O sb [.int .i64 1] mb M M1 A 12 16 17) (O, none) (by kernel_rfl) (by kernel_rfl) (Reg.GAllKept.at _ (queue10R_kept mb db g off n cap k P V Z A)) (Ar.GI.start HS.out _) ⟨?_, ?_, ?_, ?_, ?_, ?_, ?_, ?_, ?_, ?_, ?_, ?_, ?_, ?_, ?_, ?_, ?_, ?_, ?_, trivial⟩ ?_
      · refine Reg.GStepAt.plain (i := 0) rfl ?_
        intro x L ev w hI hk hp hA
        have e5 : ev (.tmp 5) = .pointer (some ⟨sb, 0, none⟩) := hA.oldNone 5 (by kernel_rfl)
        have hcc := hA.const
        clear hA hp
        have f0 := (hI.st.box.get 0 _ rfl).1
        obtain ⟨f1, f2⟩ := FC.out w hI.st.low
        refine Reg.out_value (v := .agg #[.int .i64 1]) ?_ ⟨x, rfl, Ar.Pres.refl _ _ _, hI.quiet 0 (by decide) (by decide) (by decide)⟩
        go_simp
      · refine Reg.GStepAt.plain (i := 1) rfl ?_
        intro x L ev w hI hk hp hA
        have e41 : ev (.tmp 41) = .agg #[.int .i64 1] := hA.val 0 _ 41 rfl (hp ⟨0, .data⟩ (by simp) rfl) rfl
        have hcc := hA.const
        clear hA hp
        refine Reg.out_value (v := .iface 57 (.agg #[.int .i64 1])) ?_ ⟨x, rfl, Ar.Pres.refl _ _ _, hI.quiet 1 (by decide) (by decide) (by decide)⟩
        go_simp
      · refine Reg.GStepAt.plain (i := 2) rfl ?_
        intro x L ev w hI hk hp hA
        have e8 : ev (.tmp 8) = .pointer (some ⟨mb, 0, none⟩) := hA.oldNone 8 (by kernel_rfl)
        have hcc := hA.const
        clear hA hp
        refine Reg.out_value (v := .pointer (some ⟨mb, 0, none⟩)) ?_ ⟨x, rfl, Ar.Pres.refl _ _ _, hI.quiet 2 (by decide) (by decide) (by decide)⟩
        go_simp
      · refine Reg.GStepAt.plain (i := 3) rfl ?_
        intro x L ev w hI hk hp hA
        have e0 : ev (.tmp 0) = .slice (some ⟨g, off, none⟩) n cap := hA.oldNone 0 (by kernel_rfl)
        have hcc := hA.const
        clear hA hp
        refine Reg.out_value (v := .slice (some ⟨g, off, none⟩) n cap) ?_ ⟨x, rfl, Ar.Pres.refl _ _ _, hI.quiet 3 (by decide) (by decide) (by decide)⟩
        go_simp
      · refine Reg.GStepAt.plain (i := 4) rfl ?_
        intro x L ev w hI hk hp hA
        have e10 : ev (.tmp 10) = .int .i64 (k : Int) := hA.oldNone 10 (by kernel_rfl)
        have hcc := hA.const
        clear hA hp
        refine Reg.out_value (v := .int .i64 (k : Int)) ?_ ⟨x, rfl, Ar.Pres.refl _ _ _, hI.quiet 4 (by decide) (by decide) (by decide)⟩
        go_simp
      · refine Reg.GStepAt.plain (i := 5) rfl ?_
        intro x L ev w hI hk hp hA
        have e44 : ev (.tmp 44) = .slice (some ⟨g, off, none⟩) n cap := hA.val 3 _ 44 rfl (hp ⟨3, .data⟩ (by simp) rfl) rfl
        have e45 : ev (.tmp 45) = .int .i64 (k : Int) := hA.val 4 _ 45 rfl (hp ⟨4, .data⟩ (by simp) rfl) rfl
        have hcc := hA.const
        clear hA hp
        refine Reg.out_value (v := .pointer (some ⟨g, off + k * 2, none⟩)) ?_ ⟨x, rfl, Ar.Pres.refl _ _ _, hI.quiet 5 (by decide) (by decide) (by decide)⟩
        go_simp
      · refine Reg.GStepAt.plain (i := 6) rfl ?_
        intro x L ev w hI hk hp hA
        have e46 : ev (.tmp 46) = .pointer (some ⟨g, off + k * 2, none⟩) := hA.val 5 _ 46 rfl (hp ⟨5, .data⟩ (by simp) rfl) rfl
        have hcc := hA.const
        clear hA hp
        have f0 := (hI.st.box.get 0 _ rfl).1
        obtain ⟨f1, f2⟩ := FC.out w hI.st.low
        refine Reg.out_value (v := .agg #[.int .u64 (P k), .int .i64 (V k)]) ?_ ⟨x, rfl, Ar.Pres.refl _ _ _, hI.quiet 6 (by decide) (by decide) (by decide)⟩
        go_simp
      · refine Reg.GStepAt.plain (i := 7) rfl ?_
        intro x L ev w hI hk hp hA
        have e47 : ev (.tmp 47) = .agg #[.int .u64 (P k), .int .i64 (V k)] := hA.val 6 _ 47 rfl (hp ⟨6, .data⟩ (by simp) rfl) rfl
        have hcc := hA.const
        have hcf := hA.func
        clear hA hp
        refine Reg.out_call (f := 23) (args := #[.agg #[.int .u64 (P k), .int .i64 (V k)]]) (w0 := w) ?_ ?_
        · go_simp
        refine (hOw.out w).mono ?_
        rintro e w' ⟨rfl, hb'⟩
        exact ⟨_, rfl, x, rfl, Ar.Pres.refl _ _ _, (hI.below hb').quiet 7 (by decide) (by decide) (by decide)⟩
      · refine Reg.GStepAt.plain (i := 8) rfl ?_
        intro x L ev w hI hk hp hA
        have e7 : ev (.tmp 7) = .func (.func 22) #[] #[.pointer (some ⟨db, 0, none⟩)] := hA.oldNone 7 (by kernel_rfl)
        have hcc := hA.const
        clear hA hp
        refine Reg.out_value (v := .func (.func 22) #[] #[.pointer (some ⟨db, 0, none⟩)]) ?_ ⟨x, rfl, Ar.Pres.refl _ _ _, hI.quiet 8 (by decide) (by decide) (by decide)⟩
        go_simp
      · refine Reg.GStepAt.plain (i := 9) rfl ?_
        intro x L ev w hI hk hp hA
        have e10 : ev (.tmp 10) = .int .i64 (k : Int) := hA.oldNone 10 (by kernel_rfl)
        have hcc := hA.const
        clear hA hp
        refine Reg.out_value (v := .int .i64 (k : Int)) ?_ ⟨x, rfl, Ar.Pres.refl _ _ _, hI.quiet 9 (by decide) (by decide) (by decide)⟩
        go_simp
      · refine Reg.GStepAt.plain (i := 10) rfl ?_
        intro x L ev w hI hk hp hA
        have e49 : ev (.tmp 49) = .func (.func 22) #[] #[.pointer (some ⟨db, 0, none⟩)] := hA.val 8 _ 49 rfl (hp ⟨8, .data⟩ (by simp) rfl) rfl
        have e50 : ev (.tmp 50) = .int .i64 (k : Int) := hA.val 9 _ 50 rfl (hp ⟨9, .data⟩ (by simp) rfl) rfl
        have hcc := hA.const
        clear hA hp
        refine Reg.out_call (f := 22) (args := #[.int .i64 (k : Int), .pointer (some ⟨db, 0, none⟩)]) (w0 := w) ?_ ?_
        · go_simp
        refine (hDr.out w hI.st.low k (by omega)).mono ?_
        rintro e w' ⟨rfl, hb'⟩
        exact ⟨_, rfl, x, rfl, Ar.Pres.refl _ _ _, (hI.below hb').quiet 10 (by decide) (by decide) (by decide)⟩
      · refine Reg.GStepAt.plain (i := 11) rfl ?_
        intro x L ev w hI hk hp hA
        have e48 : ev (.tmp 48) = .agg #[.float .f64 (nf (P k)), .int .i64 (V k)] := hA.val 7 _ 48 rfl (hp ⟨7, .data⟩ (by simp) rfl) rfl
        have e51 : ev (.tmp 51) = .agg #[.int .i64 (Z k), .int .i64 (k : Int)] := hA.val 10 _ 51 rfl (hp ⟨10, .data⟩ (by simp) rfl) rfl
        have hcc := hA.const
        clear hA hp
        refine Reg.out_value (v := .agg #[.int .i64 3, .float .f64 (nf (P k)), .int .i64 (V k), .int .i64 (Z k), .int .i64 (k : Int)]) ?_ ⟨x, rfl, Ar.Pres.refl _ _ _, hI.quiet 11 (by decide) (by decide) (by decide)⟩
        go_simp
      · refine Reg.GStepAt.plain (i := 12) rfl ?_
        intro x L ev w hI hk hp hA
        have e42 : ev (.tmp 42) = .iface 57 (.agg #[.int .i64 1]) := hA.val 1 _ 42 rfl (hp ⟨1, .data⟩ (by simp) rfl) rfl
        have e43 : ev (.tmp 43) = .pointer (some ⟨mb, 0, none⟩) := hA.val 2 _ 43 rfl (hp ⟨2, .data⟩ (by simp) rfl) rfl
        have e52 : ev (.tmp 52) = .agg #[.int .i64 3, .float .f64 (nf (P k)), .int .i64 (V k), .int .i64 (Z k), .int .i64 (k : Int)] := hA.val 11 _ 52 rfl (hp ⟨11, .data⟩ (by simp) rfl) rfl
        have hcc := hA.const
        have hcf := hA.func
        clear hA hp
        refine Reg.out_call (f := 13) (args := #[.iface 57 (.agg #[.int .i64 1]), .pointer (some ⟨mb, 0, none⟩), .agg #[.int .i64 3, .float .f64 (nf (P k)), .int .i64 (V k), .int .i64 (Z k), .int .i64 (k : Int)], .int .i64 20]) (w0 := w) ?_ ?_
        · go_simp
        refine (HAl.out w x.1 (hI.mem0 hk)).mono ?_
        rintro e w' ⟨rfl, O', h1, h2, h3⟩
        exact ⟨_, rfl, (O', x.2), rfl, fun _ h => h, hI.call hk (by decide) (by decide) h1 h2 h3⟩
      · refine Reg.GStepAt.plain (i := 13) rfl ?_
        intro x L ev w hI hk hp hA
        have e53 : ev (.tmp 53) = .tuple #[.agg #[.bool A.ok, .float .f64 A.pri, .int .i64 A.val, .int .i64 A.n], .bool true] := hA.val 12 _ 53 rfl (hp ⟨12, .data⟩ (by simp) rfl) rfl
        have hcc := hA.const
        clear hA hp
        refine Reg.out_value (v := .tuple #[.agg #[.bool A.ok, .float .f64 A.pri, .int .i64 A.val, .int .i64 A.n], .bool true]) ?_ ⟨x, rfl, Ar.Pres.refl _ _ _, hI.quiet 13 (by decide) (by decide) (by decide)⟩
        go_simp
      · refine Reg.GStepAt.plain (i := 14) rfl ?_
        intro x L ev w hI hk hp hA
        have e40 : ev (.tmp 40) = .tuple #[.agg #[.bool A.ok, .float .f64 A.pri, .int .i64 A.val, .int .i64 A.n], .bool true] := hA.val 13 _ 40 rfl (hp ⟨13, .data⟩ (by simp) rfl) rfl
        have hcc := hA.const
        clear hA hp
        refine Reg.out_value (v := .agg #[.bool A.ok, .float .f64 A.pri, .int .i64 A.val, .int .i64 A.n]) ?_ ⟨x, rfl, Ar.Pres.refl _ _ _, hI.quiet 14 (by decide) (by decide) (by decide)⟩
        go_simp
      · refine Reg.GStepAt.plain (i := 15) rfl ?_
        intro x L ev w hI hk hp hA
        have e40 : ev (.tmp 40) = .tuple #[.agg #[.bool A.ok, .float .f64 A.pri, .int .i64 A.val, .int .i64 A.n], .bool true] := hA.val 13 _ 40 rfl (hp ⟨13, .data⟩ (by simp) rfl) rfl
        have hcc := hA.const
        clear hA hp
        refine Reg.out_value (v := .bool true) ?_ ⟨x, rfl, Ar.Pres.refl _ _ _, hI.quiet 15 (by decide) (by decide) (by decide)⟩
        go_simp
      · refine Reg.GStepAt.plain (i := 16) rfl ?_
        intro x L ev w hI hk hp hA
        have hcc := hA.const
        have hSf : L.getD 17 false = false := by
          cases hq : L.getD 17 false with
          | false => rfl
          | true => have := hA.closed 17 _ rfl hq ⟨16, .data⟩ (by simp) rfl; rw [show (⟨16, .data⟩ : Edge).on = 16 from rfl, Ar.getD_false hk] at this; cases this
        clear hA hp
        refine Reg.out_new (v := .pointer (some ⟨w.heap.size, 0, none⟩)) (w' := w.alloc (.cells Ans.zero.l.toArray 48)) ?_ ⟨(x.1, some w.heap.size), ⟨_, rfl, rfl⟩, fun b hb => (by rw [hI.no (Ar.getD_false hk)] at hb; cases hb), hI.alloc hk hSf (by decide) (by decide) _⟩
        (go_simp; try rfl)
      · refine Reg.GStepAt.plain (i := 17) rfl ?_
        intro x L ev w hI hk hp hA
        have e11 : ∃ bx, x.2 = some bx ∧ ev (.tmp 11) = .pointer (some ⟨bx, 0, none⟩) := hA.val 16 _ 11 rfl (hp ⟨16, .data⟩ (by simp) rfl) rfl
        have e54 : ev (.tmp 54) = .agg #[.bool A.ok, .float .f64 A.pri, .int .i64 A.val, .int .i64 A.n] := hA.val 14 _ 54 rfl (hp ⟨14, .data⟩ (by simp) rfl) rfl
        have hcc := hA.const
        clear hA hp
        obtain ⟨bx, hx, e11⟩ := e11
        have hbx := (hI.box bx hx).2.2.2.2
        rw [Ar.getD_false hk] at hbx
        obtain ⟨g0, x0⟩ := hbx.get 0 _ rfl
        obtain ⟨g1, x1⟩ := hbx.get 1 _ rfl
        obtain ⟨g2, x2⟩ := hbx.get 2 _ rfl
        obtain ⟨g3, x3⟩ := hbx.get 3 _ rfl
        refine Ar.out_skip (w' := setBox w bx A.s) ?_ ⟨x, trivial, Ar.Pres.refl _ _ _, hI.store hk (by decide) (by decide) hx⟩
        clear hbx
        simp only [setBox]
        go_simp
      · refine Reg.GStepAt.plain (i := 18) rfl ?_
        intro x L ev w hI hk hp hA
        have e55 : ev (.tmp 55) = .bool true := hA.val 15 _ 55 rfl (hp ⟨15, .data⟩ (by simp) rfl) rfl
        have hcc := hA.const
        clear hA hp
        refine Reg.out_value (v := .bool true) ?_ ⟨x, rfl, Ar.Pres.refl _ _ _, hI.quiet 18 (by decide) (by decide) (by decide)⟩
        go_simp
      intro x L act wz hall hI hF
      have q41 : act.eval (.tmp 41) = .agg #[.int .i64 1] := hF.val 0 _ 41 rfl (hall 0 (by simp)) rfl
      have q42 : act.eval (.tmp 42) = .iface 57 (.agg #[.int .i64 1]) := hF.val 1 _ 42 rfl (hall 1 (by simp)) rfl
      have q43 : act.eval (.tmp 43) = .pointer (some ⟨mb, 0, none⟩) := hF.val 2 _ 43 rfl (hall 2 (by simp)) rfl
      have q44 : act.eval (.tmp 44) = .slice (some ⟨g, off, none⟩) n cap := hF.val 3 _ 44 rfl (hall 3 (by simp)) rfl
      have q45 : act.eval (.tmp 45) = .int .i64 (k : Int) := hF.val 4 _ 45 rfl (hall 4 (by simp)) rfl
      have q46 : act.eval (.tmp 46) = .pointer (some ⟨g, off + k * 2, none⟩) := hF.val 5 _ 46 rfl (hall 5 (by simp)) rfl
      have q47 : act.eval (.tmp 47) = .agg #[.int .u64 (P k), .int .i64 (V k)] := hF.val 6 _ 47 rfl (hall 6 (by simp)) rfl
      have q48 : act.eval (.tmp 48) = .agg #[.float .f64 (nf (P k)), .int .i64 (V k)] := hF.val 7 _ 48 rfl (hall 7 (by simp)) rfl
      have q49 : act.eval (.tmp 49) = .func (.func 22) #[] #[.pointer (some ⟨db, 0, none⟩)] := hF.val 8 _ 49 rfl (hall 8 (by simp)) rfl
      have q50 : act.eval (.tmp 50) = .int .i64 (k : Int) := hF.val 9 _ 50 rfl (hall 9 (by simp)) rfl
      have q51 : act.eval (.tmp 51) = .agg #[.int .i64 (Z k), .int .i64 (k : Int)] := hF.val 10 _ 51 rfl (hall 10 (by simp)) rfl
      have q52 : act.eval (.tmp 52) = .agg #[.int .i64 3, .float .f64 (nf (P k)), .int .i64 (V k), .int .i64 (Z k), .int .i64 (k : Int)] := hF.val 11 _ 52 rfl (hall 11 (by simp)) rfl
      have q53 : act.eval (.tmp 53) = .tuple #[.agg #[.bool A.ok, .float .f64 A.pri, .int .i64 A.val, .int .i64 A.n], .bool true] := hF.val 12 _ 53 rfl (hall 12 (by simp)) rfl
      have q40 : act.eval (.tmp 40) = .tuple #[.agg #[.bool A.ok, .float .f64 A.pri, .int .i64 A.val, .int .i64 A.n], .bool true] := hF.val 13 _ 40 rfl (hall 13 (by simp)) rfl
      have q54 : act.eval (.tmp 54) = .agg #[.bool A.ok, .float .f64 A.pri, .int .i64 A.val, .int .i64 A.n] := hF.val 14 _ 54 rfl (hall 14 (by simp)) rfl
      have q55 : act.eval (.tmp 55) = .bool true := hF.val 15 _ 55 rfl (hall 15 (by simp)) rfl
      have q11 : ∃ bx, x.2 = some bx ∧ act.eval (.tmp 11) = .pointer (some ⟨bx, 0, none⟩) := hF.val 16 _ 11 rfl (hall 16 (by simp)) rfl
      obtain ⟨bx, hx, q11⟩ := q11
      have q12 : act.eval (.tmp 12) = .bool true := hF.val 18 _ 12 rfl (hall 18 (by simp)) rfl
      have hact := hF.act [41, 42, 43, 44, 45, 46, 47, 48, 49, 50, 51, 52, 53, 40, 54, 55, 11, 12] (by kernel_rfl)
      have hst := hI.st
      rw [hall 12 (by simp), if_pos rfl] at hst
      have hchg := hI.chg
      have hgrw := hI.grow
      obtain ⟨hx0, hx1, hx2, hx3, hbx⟩ := hI.box bx hx
      rw [hall 17 (by simp), if_pos rfl] at hbx
      clear hF hall hI
      simp only [List.foldl_cons, List.foldl_nil] at hact
      rw [q41, q42, q43, q44, q45, q46, q47, q48, q49, q50, q51, q52, q53, q40, q54, q55, q11, q12] at hact
      clear q41 q42 q43 q44 q45 q46 q47 q48 q49 q50 q51 q52 q53 q40 q54 q55 q11 q12
      simp only [List.setIfInBounds_toArray, List.set_cons_succ, List.set_cons_zero] at hact
      subst hact
      have g0 := (hbx.get 0 _ rfl).1
      rw [hAok] at g0
      have hgl2 := hbx.lt
      obtain ⟨hFl, hOg, hgr, hgsb, hQ1, ht1, hcl⟩ := HFl.out
      have hFz := hFl.but hchg hOg
      have hgz : ¬ x.1 gr := fun e => by
        rcases hgrw _ e with q | q
        · exact hOg q
        · have := hFl.lt; omega
      obtain ⟨f1, f2⟩ := FC.out wz hst.low
      have HX := hidq (And.intro hst (And.intro hFz (And.intro hgz (And.intro hgr (And.intro hgsb (And.intro hQ1 (And.intro ht1 (And.intro hcl (And.intro hp0 hp1)))))))))
      clear hst hchg hgrw hx hx0 hx1 hx2 hx3 hbx HAl HS FC hT HFl hFz hgz hFl hOg hgr hgsb hQ1 ht1 hcl hOw hp0 hp1
      go_wp2_with fail
      refine (hTo.out _).mono ?_
      rintro e w5 ⟨rfl, hb5⟩
      obtain ⟨hst, hFz, hgz, hgr, hgsb, hQ1, ht1, hcl, hp0, hp1⟩ := HX.out
      obtain ⟨eb, heb⟩ : ∃ eb, w5.heap.size = eb := ⟨_, rfl⟩
      obtain ⟨W9, hW9', hb9, hs9, hE9⟩ := one_new w5 [.int .u64 (ni (cbits (nf (P k)))), .int .i64 (V k)] 45
      have hW9 : w5.alloc (.cells #[.int .u64 (ni (cbits (nf (P k)))), .int .i64 (V k)] 45) = W9 := hW9'
      rw [heb] at hE9 hs9
      have hb59 : Below wz.heap.size wz W9 := hb5.trans (hb9.mono hb5.size)
      have hFz9 := hFz.but (S := fun _ => False) (But.of_below hb59) id
      have hki : encR (kiOf P V k) = [.int .u64 (ni (cbits (nf (P k)))), .int .i64 (V k)] := by
        unfold encR
        rw [show (kiOf P V k).b = cbits (nf (P k)) from mkKI_b hnf _, show (kiOf P V k).v = V k from mkKI_v hnf _]
      have hSrc : Src Try.prog 2 52 (.slice (some ⟨eb, 0, none⟩) 1 1) 1 (encR (kiOf P V k)) W9 := src_new 2 W9 Try.underlying52 eb _ rfl (fun i u hu => by rw [hki] at hu; exact hE9.cell i u hu) (by have := flatR_one [kiOf P V k]; simpa [flatR] using this)
      have HAP := hidq (And.intro hFz9 hSrc)
      have FIN := hidq (fun g' c' W (hF : Flat 2 W g' c' (k + 1) (flatR (kseq P V k) ++ encR (kiOf P V k))) (hB : But (fun q => q = gr) W9 W) (hg : g' = gr ∨ W9.heap.size ≤ g') => (show CQ1 w sb mb P V (k + 1) g' c' W from by
        have s5 := hb59.size
        refine ⟨x.1, M1, h, t1, (hst.below hb59).but hB (fun q hq e => hgz (e ▸ hq)) (fun e => hgsb e.symm) (fun q e => by omega), hQ1, ht1, hcl, ?_, ?_, ?_, ?_⟩
        · rcases hg with rfl | hg
          · exact hgr
          · have := hst.low.size; omega
        · rcases hg with rfl | hg
          · exact hgz
          · intro e; have := hst.mem.lt _ e; omega
        · rcases hg with rfl | hg
          · exact hgsb
          · have := hst.box.lt; omega
        · have : flatR (kseq P V (k + 1)) = flatR (kseq P V k) ++ encR (kiOf P V k) := by
            rw [kseq_succ, flatR_append]; simp [flatR]
          rw [this]; exact hF))
      clear hst hFz hgz hgr hgsb hQ1 ht1 hcl hb5 hb9 hb59 hFz9 hE9 hSrc HX hW9' hs9 hki f1 f2 hTo
      subst heb
      subst hW9
      go_wp2_with (at_builtin; refine wpList_flat plainR _ rfl (.tmp 63) (.tmp 69) rfl gr cr k (flatR (kseq P V k)) rfl HAP.out.1 _ rfl 1 (encR (kiOf P V k)) HAP.out.2 (by omega) ?_; intro g9 c9 w9 hF9 hB9 hg9)
      have HZ := hidq (FIN.out g9 c9 w9 hF9 hB9 hg9)
      clear hF9 hB9 hg9 FIN HAP
      go_wp2
      go_roundw
      case rel => exact ⟨k + 1, g9, c9, rfl, by go_num, by omega, by omega, HZ⟩
      case measure => simp [intOf]; omega
    · have HT1 := hidq (show CQ2 w sb mb (kseq P V k) k gr cr 0 wr.heap.size 0 (wr.alloc (.cells #[] 35)) from by
        have hF0 : Flat 2 (wr.alloc (.cells #[] 35)) wr.heap.size 0 0 [] := Flat.new wr [] 35 2 0 rfl (Nat.zero_le _) (fun _ h => (by cases h))
        refine ⟨O, M, h, t, hS.alloc _, by rw [List.drop_zero]; exact hQ, by omega, by omega, hS.low.size, fun e => by have := hS.mem.lt _ e; omega, by have := hFl.lt; omega, by have := hS.box.lt; omega, by rw [Nat.zero_min]; exact hF0, hOg, hFl.but (S := fun _ => False) ((But.refl _ _).alloc _) id⟩)
      have HKL := hidq (kseq_length P V k)
      have hnd : ¬ ((k : Int) < (n : Int)) ∨ ((k : Int) < (n : Int) ∧ ¬ ((k : Int) < 30)) := by omega
      clear hS HS hQ ht hclk hgr hOg hgsb hFl hT
      generalize kseq P V k = K at *
      rcases hnd with h' | ⟨h', h''⟩
      · have hd1 : decide ((k : Int) < (n : Int)) = false := decide_eq_false h'
        have hd2 : decide (k < n) = false := decide_eq_false (by omega)
        clear hlt h'
        go_wp2_with fail
        obtain ⟨gg, hgg⟩ : ∃ gg, wr.heap.size = gg := ⟨_, rfl⟩
        obtain ⟨W5, hW5⟩ : ∃ W5, wr.alloc (.cells #[] 35) = W5 := ⟨_, rfl⟩
        have HT2 : Hid (CQ2 w sb mb K k gr cr 0 gg 0 W5) := by rw [← hgg, ← hW5]; exact HT1
        rw [hgg, hW5]
        clear HT1 hgg hW5
        go_loopw [13, 72] (fun s13 s72 wr => ∃ (j gg cg : Nat), s13 = .slice (some ⟨gg, 0, none⟩) (min j k) cg ∧ s72 = .int .i64 (j : Int) ∧ j ≤ 31 ∧ Hid (CQ2 w sb mb K k gr cr j gg cg wr)) (fun _ s72 _ => 31 - (intOf s72).toNat)
        case atStart => exact ⟨0, gg, 0, by rw [Nat.zero_min], rfl, Nat.zero_le _, HT2⟩
        case round =>
          clear HT2
          obtain ⟨w6, hw6⟩ : ∃ w6, w6 = wr := ⟨_, rfl⟩
          subst hw6
          obtain ⟨j, gg, cg, rfl, rfl, hj31, hT2⟩ := hrel
          obtain ⟨O2, M2, h2, t2, hS2, hQ2, ht2, hclk2, hgg, hOgg, hgne, hgsb, hFg, hOgr, hFr⟩ := hT2.out
          have r2 := (hS2.box.get 0 _ rfl).1
          have HS2 := hidq hS2
          by_cases hj : j < 31
          · have hj2 : (j : Int) < 31 := by omega
            have hbase := aloneK_any 1 (kstep_is 1 (by decide)) (kFine 1 (by decide)) mb
            have hcl := alone_clock (kFine 1 (by decide)) 30 M2 (Fr.of 4 0 0 (Z j) (j : Int))
            rcases deq_alone (k := 1) 0 0 (Z j) (j : Int) 30 (by decide) hQ2 (by decide) (by omega) with ⟨hnil, M1, h1', t1', ha, hQ1, ht1⟩ | ⟨x, M1, h1', ha, hx, hQ1⟩
            · rw [show ((1 : Nat) : Int) = 1 from rfl] at ha
              obtain ⟨A, hA⟩ : ∃ A : Ans, A = Ans.zero := ⟨_, rfl⟩
              have hjk : k ≤ j := by
                have := congrArg List.length hnil
                rw [List.length_drop, HKL.out] at this
                simp at this; omega
              have hdr1 : K.drop (j + 1) = [] := List.drop_eq_nil_of_le (by rw [HKL.out]; omega)
              have htk : K.take (j + 1) = K.take j := by rw [List.take_of_length_le (by rw [HKL.out]; omega), List.take_of_length_le (by rw [HKL.out]; omega)]
              have hmin : min (j + 1) k = min j k := by omega
              rw [ha] at hcl
              have HAl := hidq (fun W (O : Nat → Prop) (hM : MemAt W mb O M2) => (show Calls Try.prog 13 #[.iface 57 (.agg #[.int .i64 1]), .pointer (some ⟨mb, 0, none⟩), .agg #[.int .i64 4, .float .f64 0, .int .i64 0, .int .i64 (Z j), .int .i64 (j : Int)], .int .i64 30] W fun e w' =>
                    e = .returned (.tuple #[.agg #[.bool A.ok, .float .f64 A.pri, .int .i64 A.val, .int .i64 A.n], .bool true]) ∧ ∃ O', MemAt w' mb O' M1 ∧ Grown O W w' O' ∧ But O W w' from by
                have := hbase O M2 4 0 0 (Z j) (j : Int) 30 W hM (kGood.start (by decide) 4 0 _ _ _ (.inr rfl) (by decide) hQ2.km) (by decide) (by omega)
                rw [show (30 : Int).toNat = 30 from rfl, ha] at this
                rw [hA]
                exact this))
              have HH := hidq (And.intro hFg (And.intro hFr (And.intro hOgg (And.intro hOgr (And.intro hQ1 (And.intro ht1 (And.intro (show M1.clock ≤ M2.clock + 30 from hcl) (And.intro hclk2 (And.intro ht2 (And.intro hdr1 (And.intro htk hA)))))))))))
              have hAok : A.ok = false := by rw [hA]; rfl
              have HMN := hidq hmin
              clear hFg hFr hOgg hOgr hQ2 hclk2 hcl hdr1 htk hS2 hmin hA hQ1 ha ht1 ht2 hbase hnil
              generalize min j k = mj at *
              go_wp2_with fail
              refine Reg.wp_region_ghost (Reg.gofList (queue18R mb db j Z A)) Ar.Pres (Ar.GI w w6 O2 sb [.int .i64 1] mb M2 M1 A 7 11 12) (O2, none) (by kernel_rfl) (by kernel_rfl) (Reg.GAllKept.at _ (queue18R_kept mb db j Z A)) (Ar.GI.start HS2.out _) ⟨?_, ?_, ?_, ?_, ?_, ?_, ?_, ?_, ?_, ?_, ?_, ?_, ?_, ?_, trivial⟩ ?_
              · refine Reg.GStepAt.plain (i := 0) rfl ?_
                intro x L ev w hI hk hp hA
                have e5 : ev (.tmp 5) = .pointer (some ⟨sb, 0, none⟩) := hA.oldNone 5 (by kernel_rfl)
                have hcc := hA.const
                clear hA hp
                have f0 := (hI.st.box.get 0 _ rfl).1
                refine Reg.out_value (v := .agg #[.int .i64 1]) ?_ ⟨x, rfl, Ar.Pres.refl _ _ _, hI.quiet 0 (by decide) (by decide) (by decide)⟩
                go_simp
              · refine Reg.GStepAt.plain (i := 1) rfl ?_
                intro x L ev w hI hk hp hA
                have e76 : ev (.tmp 76) = .agg #[.int .i64 1] := hA.val 0 _ 76 rfl (hp ⟨0, .data⟩ (by simp) rfl) rfl
                have hcc := hA.const
                clear hA hp
                refine Reg.out_value (v := .iface 57 (.agg #[.int .i64 1])) ?_ ⟨x, rfl, Ar.Pres.refl _ _ _, hI.quiet 1 (by decide) (by decide) (by decide)⟩
                go_simp
              · refine Reg.GStepAt.plain (i := 2) rfl ?_
                intro x L ev w hI hk hp hA
                have e8 : ev (.tmp 8) = .pointer (some ⟨mb, 0, none⟩) := hA.oldNone 8 (by kernel_rfl)
                have hcc := hA.const
                clear hA hp
                refine Reg.out_value (v := .pointer (some ⟨mb, 0, none⟩)) ?_ ⟨x, rfl, Ar.Pres.refl _ _ _, hI.quiet 2 (by decide) (by decide) (by decide)⟩
                go_simp
              · refine Reg.GStepAt.plain (i := 3) rfl ?_
                intro x L ev w hI hk hp hA
                have e7 : ev (.tmp 7) = .func (.func 22) #[] #[.pointer (some ⟨db, 0, none⟩)] := hA.oldNone 7 (by kernel_rfl)
                have hcc := hA.const
                clear hA hp
                refine Reg.out_value (v := .func (.func 22) #[] #[.pointer (some ⟨db, 0, none⟩)]) ?_ ⟨x, rfl, Ar.Pres.refl _ _ _, hI.quiet 3 (by decide) (by decide) (by decide)⟩
                go_simp
              · refine Reg.GStepAt.plain (i := 4) rfl ?_
                intro x L ev w hI hk hp hA
                have e14 : ev (.tmp 14) = .int .i64 (j : Int) := hA.oldNone 14 (by kernel_rfl)
                have hcc := hA.const
                clear hA hp
                refine Reg.out_value (v := .int .i64 (j : Int)) ?_ ⟨x, rfl, Ar.Pres.refl _ _ _, hI.quiet 4 (by decide) (by decide) (by decide)⟩
                go_simp
              · refine Reg.GStepAt.plain (i := 5) rfl ?_
                intro x L ev w hI hk hp hA
                have e79 : ev (.tmp 79) = .func (.func 22) #[] #[.pointer (some ⟨db, 0, none⟩)] := hA.val 3 _ 79 rfl (hp ⟨3, .data⟩ (by simp) rfl) rfl
                have e80 : ev (.tmp 80) = .int .i64 (j : Int) := hA.val 4 _ 80 rfl (hp ⟨4, .data⟩ (by simp) rfl) rfl
                have hcc := hA.const
                clear hA hp
                refine Reg.out_call (f := 22) (args := #[.int .i64 (j : Int), .pointer (some ⟨db, 0, none⟩)]) (w0 := w) ?_ ?_
                · go_simp
                refine (hDr.out w hI.st.low j (by omega)).mono ?_
                rintro e w' ⟨rfl, hb'⟩
                exact ⟨_, rfl, x, rfl, Ar.Pres.refl _ _ _, (hI.below hb').quiet 5 (by decide) (by decide) (by decide)⟩
              · refine Reg.GStepAt.plain (i := 6) rfl ?_
                intro x L ev w hI hk hp hA
                have e81 : ev (.tmp 81) = .agg #[.int .i64 (Z j), .int .i64 (j : Int)] := hA.val 5 _ 81 rfl (hp ⟨5, .data⟩ (by simp) rfl) rfl
                have hcc := hA.const
                clear hA hp
                refine Reg.out_value (v := .agg #[.int .i64 4, .float .f64 0, .int .i64 0, .int .i64 (Z j), .int .i64 (j : Int)]) ?_ ⟨x, rfl, Ar.Pres.refl _ _ _, hI.quiet 6 (by decide) (by decide) (by decide)⟩
                go_simp
              · refine Reg.GStepAt.plain (i := 7) rfl ?_
                intro x L ev w hI hk hp hA
                have e77 : ev (.tmp 77) = .iface 57 (.agg #[.int .i64 1]) := hA.val 1 _ 77 rfl (hp ⟨1, .data⟩ (by simp) rfl) rfl
                have e78 : ev (.tmp 78) = .pointer (some ⟨mb, 0, none⟩) := hA.val 2 _ 78 rfl (hp ⟨2, .data⟩ (by simp) rfl) rfl
                have e82 : ev (.tmp 82) = .agg #[.int .i64 4, .float .f64 0, .int .i64 0, .int .i64 (Z j), .int .i64 (j : Int)] := hA.val 6 _ 82 rfl (hp ⟨6, .data⟩ (by simp) rfl) rfl
                have hcc := hA.const
                have hcf := hA.func
                clear hA hp
                refine Reg.out_call (f := 13) (args := #[.iface 57 (.agg #[.int .i64 1]), .pointer (some ⟨mb, 0, none⟩), .agg #[.int .i64 4, .float .f64 0, .int .i64 0, .int .i64 (Z j), .int .i64 (j : Int)], .int .i64 30]) (w0 := w) ?_ ?_
                · go_simp
                refine (HAl.out w x.1 (hI.mem0 hk)).mono ?_
                rintro e w' ⟨rfl, O', h1, h2, h3⟩
                exact ⟨_, rfl, (O', x.2), rfl, fun _ h => h, hI.call hk (by decide) (by decide) h1 h2 h3⟩
              · refine Reg.GStepAt.plain (i := 8) rfl ?_
                intro x L ev w hI hk hp hA
                have e83 : ev (.tmp 83) = .tuple #[.agg #[.bool A.ok, .float .f64 A.pri, .int .i64 A.val, .int .i64 A.n], .bool true] := hA.val 7 _ 83 rfl (hp ⟨7, .data⟩ (by simp) rfl) rfl
                have hcc := hA.const
                clear hA hp
                refine Reg.out_value (v := .tuple #[.agg #[.bool A.ok, .float .f64 A.pri, .int .i64 A.val, .int .i64 A.n], .bool true]) ?_ ⟨x, rfl, Ar.Pres.refl _ _ _, hI.quiet 8 (by decide) (by decide) (by decide)⟩
                go_simp
              · refine Reg.GStepAt.plain (i := 9) rfl ?_
                intro x L ev w hI hk hp hA
                have e75 : ev (.tmp 75) = .tuple #[.agg #[.bool A.ok, .float .f64 A.pri, .int .i64 A.val, .int .i64 A.n], .bool true] := hA.val 8 _ 75 rfl (hp ⟨8, .data⟩ (by simp) rfl) rfl
                have hcc := hA.const
                clear hA hp
                refine Reg.out_value (v := .agg #[.bool A.ok, .float .f64 A.pri, .int .i64 A.val, .int .i64 A.n]) ?_ ⟨x, rfl, Ar.Pres.refl _ _ _, hI.quiet 9 (by decide) (by decide) (by decide)⟩
                go_simp
              · refine Reg.GStepAt.plain (i := 10) rfl ?_
                intro x L ev w hI hk hp hA
                have e75 : ev (.tmp 75) = .tuple #[.agg #[.bool A.ok, .float .f64 A.pri, .int .i64 A.val, .int .i64 A.n], .bool true] := hA.val 8 _ 75 rfl (hp ⟨8, .data⟩ (by simp) rfl) rfl
                have hcc := hA.const
                clear hA hp
                refine Reg.out_value (v := .bool true) ?_ ⟨x, rfl, Ar.Pres.refl _ _ _, hI.quiet 10 (by decide) (by decide) (by decide)⟩
                go_simp
              · refine Reg.GStepAt.plain (i := 11) rfl ?_
                intro x L ev w hI hk hp hA
                have hcc := hA.const
                have hSf : L.getD 12 false = false := by
                  cases hq : L.getD 12 false with
                  | false => rfl
                  | true => have := hA.closed 12 _ rfl hq ⟨11, .data⟩ (by simp) rfl; rw [show (⟨11, .data⟩ : Edge).on = 11 from rfl, Ar.getD_false hk] at this; cases this
                clear hA hp
                refine Reg.out_new (v := .pointer (some ⟨w.heap.size, 0, none⟩)) (w' := w.alloc (.cells Ans.zero.l.toArray 48)) ?_ ⟨(x.1, some w.heap.size), ⟨_, rfl, rfl⟩, fun b hb => (by rw [hI.no (Ar.getD_false hk)] at hb; cases hb), hI.alloc hk hSf (by decide) (by decide) _⟩
                (go_simp; try rfl)
              · refine Reg.GStepAt.plain (i := 12) rfl ?_
                intro x L ev w hI hk hp hA
                have e15 : ∃ bx, x.2 = some bx ∧ ev (.tmp 15) = .pointer (some ⟨bx, 0, none⟩) := hA.val 11 _ 15 rfl (hp ⟨11, .data⟩ (by simp) rfl) rfl
                have e84 : ev (.tmp 84) = .agg #[.bool A.ok, .float .f64 A.pri, .int .i64 A.val, .int .i64 A.n] := hA.val 9 _ 84 rfl (hp ⟨9, .data⟩ (by simp) rfl) rfl
                have hcc := hA.const
                clear hA hp
                obtain ⟨bx, hx, e15⟩ := e15
                have hbx := (hI.box bx hx).2.2.2.2
                rw [Ar.getD_false hk] at hbx
                obtain ⟨g0, x0⟩ := hbx.get 0 _ rfl
                obtain ⟨g1, x1⟩ := hbx.get 1 _ rfl
                obtain ⟨g2, x2⟩ := hbx.get 2 _ rfl
                obtain ⟨g3, x3⟩ := hbx.get 3 _ rfl
                refine Ar.out_skip (w' := setBox w bx A.s) ?_ ⟨x, trivial, Ar.Pres.refl _ _ _, hI.store hk (by decide) (by decide) hx⟩
                clear hbx
                simp only [setBox]
                go_simp
              · refine Reg.GStepAt.plain (i := 13) rfl ?_
                intro x L ev w hI hk hp hA
                have e85 : ev (.tmp 85) = .bool true := hA.val 10 _ 85 rfl (hp ⟨10, .data⟩ (by simp) rfl) rfl
                have hcc := hA.const
                clear hA hp
                refine Reg.out_value (v := .bool true) ?_ ⟨x, rfl, Ar.Pres.refl _ _ _, hI.quiet 13 (by decide) (by decide) (by decide)⟩
                go_simp
              intro x L act wz hall hI hF
              have q76 : act.eval (.tmp 76) = .agg #[.int .i64 1] := hF.val 0 _ 76 rfl (hall 0 (by simp)) rfl
              have q77 : act.eval (.tmp 77) = .iface 57 (.agg #[.int .i64 1]) := hF.val 1 _ 77 rfl (hall 1 (by simp)) rfl
              have q78 : act.eval (.tmp 78) = .pointer (some ⟨mb, 0, none⟩) := hF.val 2 _ 78 rfl (hall 2 (by simp)) rfl
              have q79 : act.eval (.tmp 79) = .func (.func 22) #[] #[.pointer (some ⟨db, 0, none⟩)] := hF.val 3 _ 79 rfl (hall 3 (by simp)) rfl
              have q80 : act.eval (.tmp 80) = .int .i64 (j : Int) := hF.val 4 _ 80 rfl (hall 4 (by simp)) rfl
              have q81 : act.eval (.tmp 81) = .agg #[.int .i64 (Z j), .int .i64 (j : Int)] := hF.val 5 _ 81 rfl (hall 5 (by simp)) rfl
              have q82 : act.eval (.tmp 82) = .agg #[.int .i64 4, .float .f64 0, .int .i64 0, .int .i64 (Z j), .int .i64 (j : Int)] := hF.val 6 _ 82 rfl (hall 6 (by simp)) rfl
              have q83 : act.eval (.tmp 83) = .tuple #[.agg #[.bool A.ok, .float .f64 A.pri, .int .i64 A.val, .int .i64 A.n], .bool true] := hF.val 7 _ 83 rfl (hall 7 (by simp)) rfl
              have q75 : act.eval (.tmp 75) = .tuple #[.agg #[.bool A.ok, .float .f64 A.pri, .int .i64 A.val, .int .i64 A.n], .bool true] := hF.val 8 _ 75 rfl (hall 8 (by simp)) rfl
              have q84 : act.eval (.tmp 84) = .agg #[.bool A.ok, .float .f64 A.pri, .int .i64 A.val, .int .i64 A.n] := hF.val 9 _ 84 rfl (hall 9 (by simp)) rfl
              have q85 : act.eval (.tmp 85) = .bool true := hF.val 10 _ 85 rfl (hall 10 (by simp)) rfl
              have q15 : ∃ bx, x.2 = some bx ∧ act.eval (.tmp 15) = .pointer (some ⟨bx, 0, none⟩) := hF.val 11 _ 15 rfl (hall 11 (by simp)) rfl
              obtain ⟨bx, hx, q15⟩ := q15
              have q16 : act.eval (.tmp 16) = .bool true := hF.val 13 _ 16 rfl (hall 13 (by simp)) rfl
              have hact := hF.act [76, 77, 78, 79, 80, 81, 82, 83, 75, 84, 85, 15, 16] (by kernel_rfl)
              have hst := hI.st
              rw [hall 7 (by simp), if_pos rfl] at hst
              have hchg := hI.chg
              have hgrw := hI.grow
              obtain ⟨hx0, hx1, hx2, hx3, hbx⟩ := hI.box bx hx
              rw [hall 12 (by simp), if_pos rfl] at hbx
              clear hF hall hI
              simp only [List.foldl_cons, List.foldl_nil] at hact
              rw [q76, q77, q78, q79, q80, q81, q82, q83, q75, q84, q85, q15, q16] at hact
              clear q76 q77 q78 q79 q80 q81 q82 q83 q75 q84 q85 q15 q16
              simp only [List.setIfInBounds_toArray, List.set_cons_succ, List.set_cons_zero] at hact
              subst hact
              obtain ⟨hFg, hFr, hOgg, hOgr, hQ1, ht1, hcl, hclk2, ht2, hdr1, htk, hA⟩ := HH.out
              have g0 := (hbx.get 0 _ rfl).1
              rw [hAok] at g0
              have hgl := hbx.lt
              have hn7 : ∀ q, q < w6.heap.size → ¬ O2 q → ¬ x.1 q := fun q hq hn e => by
                rcases hgrw q e with z | z
                · exact hn z
                · omega
              have HZ := hidq (show CQ2 w sb mb K k gr cr (j + 1) gg cg wz from
                ⟨x.1, M1, h1', t1', hst, by rw [hdr1]; exact hQ1, by omega, by omega, hgg, hn7 _ hFg.lt hOgg, hgne, hgsb, by rw [HMN.out, htk]; exact hFg.but hchg hOgg, hn7 _ hFr.lt hOgr, hFr.but hchg hOgr⟩)
              have hjs : j + 1 ≤ 31 := by omega
              clear hFg hFr hOgg hOgr hQ1 ht1 hcl hclk2 ht2 hdr1 htk hA hn7 HH HS2 hT2 hst hchg hgrw hbx hx hx0 hx1 hx2 hx3 HAl
              go_wp2
              go_roundw
              case rel => exact ⟨j + 1, gg, cg, by rw [HMN.out], by go_num, hjs, HZ⟩
              case measure => simp [intOf]; omega
            · rw [show ((1 : Nat) : Int) = 1 from rfl] at ha
              have hjk : j < k := by
                rcases Nat.lt_or_ge j k with e | e
                · exact e
                · rw [List.drop_eq_nil_of_le (by rw [HKL.out]; exact e)] at hx; simp at hx
              have hjl : j < K.length := by rw [HKL.out]; exact hjk
              have hdr : K.drop j = K[j] :: K.drop (j + 1) := List.drop_eq_getElem_cons hjl
              have htk : K.take (j + 1) = K.take j ++ [K[j]] := List.take_succ_eq_append_getElem hjl
              have hxe : x = K[j] := by rw [hdr, show (1 : Nat) = 0 + 1 from rfl, List.take_succ_cons, List.take_zero] at hx; exact List.mem_singleton.1 hx
              rw [← hxe] at hdr htk
              have hQ3 : QI 1 M1 h1' t2 (K.drop (j + 1)) := by rw [hdr, List.erase_cons_head] at hQ1; exact hQ1
              obtain ⟨y, hy⟩ : ∃ y, x = y := ⟨_, rfl⟩
              obtain ⟨A, hA⟩ : ∃ A : Ans, A = ⟨true, y.b, y.v, 0⟩ := ⟨_, rfl⟩
              rw [hy] at ha htk
              have hmin : min j k = j := by omega
              have hmin1 : min (j + 1) k = j + 1 := by omega
              rw [hmin] at hFg ⊢
              rw [ha] at hcl
              have HAl := hidq (fun W (O : Nat → Prop) (hM : MemAt W mb O M2) => (show Calls Try.prog 13 #[.iface 57 (.agg #[.int .i64 1]), .pointer (some ⟨mb, 0, none⟩), .agg #[.int .i64 4, .float .f64 0, .int .i64 0, .int .i64 (Z j), .int .i64 (j : Int)], .int .i64 30] W fun e w' =>
                    e = .returned (.tuple #[.agg #[.bool A.ok, .float .f64 A.pri, .int .i64 A.val, .int .i64 A.n], .bool true]) ∧ ∃ O', MemAt w' mb O' M1 ∧ Grown O W w' O' ∧ But O W w' from by
                have := hbase O M2 4 0 0 (Z j) (j : Int) 30 W hM (kGood.start (by decide) 4 0 _ _ _ (.inr rfl) (by decide) hQ2.km) (by decide) (by omega)
                rw [show (30 : Int).toNat = 30 from rfl, ha] at this
                rw [hA]
                exact this))
              have HH := hidq (And.intro hFg (And.intro hFr (And.intro hOgg (And.intro hOgr (And.intro hQ3 (And.intro (show M1.clock ≤ M2.clock + 30 from hcl) (And.intro hclk2 (And.intro ht2 (And.intro htk hA)))))))))
              have hAe := hA
              have HMN := hidq (And.intro hmin hmin1)
              clear hFg hFr hOgg hOgr hQ2 hclk2 hcl htk hS2 hmin hmin1 hA hQ1 hQ3 ha ht2 hbase hdr hxe hx hy hAe
              go_wp2_with fail
              refine Reg.wp_region_ghost (Reg.gofList (queue18R mb db j Z A)) Ar.Pres (Ar.GI w w6 O2 sb [.int .i64 1] mb M2 M1 A 7 11 12) (O2, none) (by kernel_rfl) (by kernel_rfl) (Reg.GAllKept.at _ (queue18R_kept mb db j Z A)) (Ar.GI.start HS2.out _) ⟨?_, ?_, ?_, ?_, ?_, ?_, ?_, ?_, ?_, ?_, ?_, ?_, ?_, ?_, trivial⟩ ?_
              · refine Reg.GStepAt.plain (i := 0) rfl ?_
                intro x L ev w hI hk hp hA
                have e5 : ev (.tmp 5) = .pointer (some ⟨sb, 0, none⟩) := hA.oldNone 5 (by kernel_rfl)
                have hcc := hA.const
                clear hA hp
                have f0 := (hI.st.box.get 0 _ rfl).1
                refine Reg.out_value (v := .agg #[.int .i64 1]) ?_ ⟨x, rfl, Ar.Pres.refl _ _ _, hI.quiet 0 (by decide) (by decide) (by decide)⟩
                go_simp
              · refine Reg.GStepAt.plain (i := 1) rfl ?_
                intro x L ev w hI hk hp hA
                have e76 : ev (.tmp 76) = .agg #[.int .i64 1] := hA.val 0 _ 76 rfl (hp ⟨0, .data⟩ (by simp) rfl) rfl
                have hcc := hA.const
                clear hA hp
                refine Reg.out_value (v := .iface 57 (.agg #[.int .i64 1])) ?_ ⟨x, rfl, Ar.Pres.refl _ _ _, hI.quiet 1 (by decide) (by decide) (by decide)⟩
                go_simp
              · refine Reg.GStepAt.plain (i := 2) rfl ?_
                intro x L ev w hI hk hp hA
                have e8 : ev (.tmp 8) = .pointer (some ⟨mb, 0, none⟩) := hA.oldNone 8 (by kernel_rfl)
                have hcc := hA.const
                clear hA hp
                refine Reg.out_value (v := .pointer (some ⟨mb, 0, none⟩)) ?_ ⟨x, rfl, Ar.Pres.refl _ _ _, hI.quiet 2 (by decide) (by decide) (by decide)⟩
                go_simp
              · refine Reg.GStepAt.plain (i := 3) rfl ?_
                intro x L ev w hI hk hp hA
                have e7 : ev (.tmp 7) = .func (.func 22) #[] #[.pointer (some ⟨db, 0, none⟩)] := hA.oldNone 7 (by kernel_rfl)
                have hcc := hA.const
                clear hA hp
                refine Reg.out_value (v := .func (.func 22) #[] #[.pointer (some ⟨db, 0, none⟩)]) ?_ ⟨x, rfl, Ar.Pres.refl _ _ _, hI.quiet 3 (by decide) (by decide) (by decide)⟩
                go_simp
              · refine Reg.GStepAt.plain (i := 4) rfl ?_
                intro x L ev w hI hk hp hA
                have e14 : ev (.tmp 14) = .int .i64 (j : Int) := hA.oldNone 14 (by kernel_rfl)
                have hcc := hA.const
                clear hA hp
                refine Reg.out_value (v := .int .i64 (j : Int)) ?_ ⟨x, rfl, Ar.Pres.refl _ _ _, hI.quiet 4 (by decide) (by decide) (by decide)⟩
                go_simp
              · refine Reg.GStepAt.plain (i := 5) rfl ?_
                intro x L ev w hI hk hp hA
                have e79 : ev (.tmp 79) = .func (.func 22) #[] #[.pointer (some ⟨db, 0, none⟩)] := hA.val 3 _ 79 rfl (hp ⟨3, .data⟩ (by simp) rfl) rfl
                have e80 : ev (.tmp 80) = .int .i64 (j : Int) := hA.val 4 _ 80 rfl (hp ⟨4, .data⟩ (by simp) rfl) rfl
                have hcc := hA.const
                clear hA hp
                refine Reg.out_call (f := 22) (args := #[.int .i64 (j : Int), .pointer (some ⟨db, 0, none⟩)]) (w0 := w) ?_ ?_
                · go_simp
                refine (hDr.out w hI.st.low j (by omega)).mono ?_
                rintro e w' ⟨rfl, hb'⟩
                exact ⟨_, rfl, x, rfl, Ar.Pres.refl _ _ _, (hI.below hb').quiet 5 (by decide) (by decide) (by decide)⟩
              · refine Reg.GStepAt.plain (i := 6) rfl ?_
                intro x L ev w hI hk hp hA
                have e81 : ev (.tmp 81) = .agg #[.int .i64 (Z j), .int .i64 (j : Int)] := hA.val 5 _ 81 rfl (hp ⟨5, .data⟩ (by simp) rfl) rfl
                have hcc := hA.const
                clear hA hp
                refine Reg.out_value (v := .agg #[.int .i64 4, .float .f64 0, .int .i64 0, .int .i64 (Z j), .int .i64 (j : Int)]) ?_ ⟨x, rfl, Ar.Pres.refl _ _ _, hI.quiet 6 (by decide) (by decide) (by decide)⟩
                go_simp
              · refine Reg.GStepAt.plain (i := 7) rfl ?_
                intro x L ev w hI hk hp hA
                have e77 : ev (.tmp 77) = .iface 57 (.agg #[.int .i64 1]) := hA.val 1 _ 77 rfl (hp ⟨1, .data⟩ (by simp) rfl) rfl
                have e78 : ev (.tmp 78) = .pointer (some ⟨mb, 0, none⟩) := hA.val 2 _ 78 rfl (hp ⟨2, .data⟩ (by simp) rfl) rfl
                have e82 : ev (.tmp 82) = .agg #[.int .i64 4, .float .f64 0, .int .i64 0, .int .i64 (Z j), .int .i64 (j : Int)] := hA.val 6 _ 82 rfl (hp ⟨6, .data⟩ (by simp) rfl) rfl
                have hcc := hA.const
                have hcf := hA.func
                clear hA hp
                refine Reg.out_call (f := 13) (args := #[.iface 57 (.agg #[.int .i64 1]), .pointer (some ⟨mb, 0, none⟩), .agg #[.int .i64 4, .float .f64 0, .int .i64 0, .int .i64 (Z j), .int .i64 (j : Int)], .int .i64 30]) (w0 := w) ?_ ?_
                · go_simp
                refine (HAl.out w x.1 (hI.mem0 hk)).mono ?_
                rintro e w' ⟨rfl, O', h1, h2, h3⟩
                exact ⟨_, rfl, (O', x.2), rfl, fun _ h => h, hI.call hk (by decide) (by decide) h1 h2 h3⟩
              · refine Reg.GStepAt.plain (i := 8) rfl ?_
                intro x L ev w hI hk hp hA
                have e83 : ev (.tmp 83) = .tuple #[.agg #[.bool A.ok, .float .f64 A.pri, .int .i64 A.val, .int .i64 A.n], .bool true] := hA.val 7 _ 83 rfl (hp ⟨7, .data⟩ (by simp) rfl) rfl
                have hcc := hA.const
                clear hA hp
                refine Reg.out_value (v := .tuple #[.agg #[.bool A.ok, .float .f64 A.pri, .int .i64 A.val, .int .i64 A.n], .bool true]) ?_ ⟨x, rfl, Ar.Pres.refl _ _ _, hI.quiet 8 (by decide) (by decide) (by decide)⟩
                go_simp
              · refine Reg.GStepAt.plain (i := 9) rfl ?_
                intro x L ev w hI hk hp hA
                have e75 : ev (.tmp 75) = .tuple #[.agg #[.bool A.ok, .float .f64 A.pri, .int .i64 A.val, .int .i64 A.n], .bool true] := hA.val 8 _ 75 rfl (hp ⟨8, .data⟩ (by simp) rfl) rfl
                have hcc := hA.const
                clear hA hp
                refine Reg.out_value (v := .agg #[.bool A.ok, .float .f64 A.pri, .int .i64 A.val, .int .i64 A.n]) ?_ ⟨x, rfl, Ar.Pres.refl _ _ _, hI.quiet 9 (by decide) (by decide) (by decide)⟩
                go_simp
              · refine Reg.GStepAt.plain (i := 10) rfl ?_
                intro x L ev w hI hk hp hA
                have e75 : ev (.tmp 75) = .tuple #[.agg #[.bool A.ok, .float .f64 A.pri, .int .i64 A.val, .int .i64 A.n], .bool true] := hA.val 8 _ 75 rfl (hp ⟨8, .data⟩ (by simp) rfl) rfl
                have hcc := hA.const
                clear hA hp
                refine Reg.out_value (v := .bool true) ?_ ⟨x, rfl, Ar.Pres.refl _ _ _, hI.quiet 10 (by decide) (by decide) (by decide)⟩
                go_simp
              · refine Reg.GStepAt.plain (i := 11) rfl ?_
                intro x L ev w hI hk hp hA
                have hcc := hA.const
                have hSf : L.getD 12 false = false := by
                  cases hq : L.getD 12 false with
                  | false => rfl
                  | true => have := hA.closed 12 _ rfl hq ⟨11, .data⟩ (by simp) rfl; rw [show (⟨11, .data⟩ : Edge).on = 11 from rfl, Ar.getD_false hk] at this; cases this
                clear hA hp
                refine Reg.out_new (v := .pointer (some ⟨w.heap.size, 0, none⟩)) (w' := w.alloc (.cells Ans.zero.l.toArray 48)) ?_ ⟨(x.1, some w.heap.size), ⟨_, rfl, rfl⟩, fun b hb => (by rw [hI.no (Ar.getD_false hk)] at hb; cases hb), hI.alloc hk hSf (by decide) (by decide) _⟩
                (go_simp; try rfl)
              · refine Reg.GStepAt.plain (i := 12) rfl ?_
                intro x L ev w hI hk hp hA
                have e15 : ∃ bx, x.2 = some bx ∧ ev (.tmp 15) = .pointer (some ⟨bx, 0, none⟩) := hA.val 11 _ 15 rfl (hp ⟨11, .data⟩ (by simp) rfl) rfl
                have e84 : ev (.tmp 84) = .agg #[.bool A.ok, .float .f64 A.pri, .int .i64 A.val, .int .i64 A.n] := hA.val 9 _ 84 rfl (hp ⟨9, .data⟩ (by simp) rfl) rfl
                have hcc := hA.const
                clear hA hp
                obtain ⟨bx, hx, e15⟩ := e15
                have hbx := (hI.box bx hx).2.2.2.2
                rw [Ar.getD_false hk] at hbx
                obtain ⟨g0, x0⟩ := hbx.get 0 _ rfl
                obtain ⟨g1, x1⟩ := hbx.get 1 _ rfl
                obtain ⟨g2, x2⟩ := hbx.get 2 _ rfl
                obtain ⟨g3, x3⟩ := hbx.get 3 _ rfl
                refine Ar.out_skip (w' := setBox w bx A.s) ?_ ⟨x, trivial, Ar.Pres.refl _ _ _, hI.store hk (by decide) (by decide) hx⟩
                clear hbx
                simp only [setBox]
                go_simp
              · refine Reg.GStepAt.plain (i := 13) rfl ?_
                intro x L ev w hI hk hp hA
                have e85 : ev (.tmp 85) = .bool true := hA.val 10 _ 85 rfl (hp ⟨10, .data⟩ (by simp) rfl) rfl
                have hcc := hA.const
                clear hA hp
                refine Reg.out_value (v := .bool true) ?_ ⟨x, rfl, Ar.Pres.refl _ _ _, hI.quiet 13 (by decide) (by decide) (by decide)⟩
                go_simp
              intro x L act wz hall hI hF
              have q76 : act.eval (.tmp 76) = .agg #[.int .i64 1] := hF.val 0 _ 76 rfl (hall 0 (by simp)) rfl
              have q77 : act.eval (.tmp 77) = .iface 57 (.agg #[.int .i64 1]) := hF.val 1 _ 77 rfl (hall 1 (by simp)) rfl
              have q78 : act.eval (.tmp 78) = .pointer (some ⟨mb, 0, none⟩) := hF.val 2 _ 78 rfl (hall 2 (by simp)) rfl
              have q79 : act.eval (.tmp 79) = .func (.func 22) #[] #[.pointer (some ⟨db, 0, none⟩)] := hF.val 3 _ 79 rfl (hall 3 (by simp)) rfl
              have q80 : act.eval (.tmp 80) = .int .i64 (j : Int) := hF.val 4 _ 80 rfl (hall 4 (by simp)) rfl
              have q81 : act.eval (.tmp 81) = .agg #[.int .i64 (Z j), .int .i64 (j : Int)] := hF.val 5 _ 81 rfl (hall 5 (by simp)) rfl
              have q82 : act.eval (.tmp 82) = .agg #[.int .i64 4, .float .f64 0, .int .i64 0, .int .i64 (Z j), .int .i64 (j : Int)] := hF.val 6 _ 82 rfl (hall 6 (by simp)) rfl
              have q83 : act.eval (.tmp 83) = .tuple #[.agg #[.bool A.ok, .float .f64 A.pri, .int .i64 A.val, .int .i64 A.n], .bool true] := hF.val 7 _ 83 rfl (hall 7 (by simp)) rfl
              have q75 : act.eval (.tmp 75) = .tuple #[.agg #[.bool A.ok, .float .f64 A.pri, .int .i64 A.val, .int .i64 A.n], .bool true] := hF.val 8 _ 75 rfl (hall 8 (by simp)) rfl
              have q84 : act.eval (.tmp 84) = .agg #[.bool A.ok, .float .f64 A.pri, .int .i64 A.val, .int .i64 A.n] := hF.val 9 _ 84 rfl (hall 9 (by simp)) rfl
              have q85 : act.eval (.tmp 85) = .bool true := hF.val 10 _ 85 rfl (hall 10 (by simp)) rfl
              have q15 : ∃ bx, x.2 = some bx ∧ act.eval (.tmp 15) = .pointer (some ⟨bx, 0, none⟩) := hF.val 11 _ 15 rfl (hall 11 (by simp)) rfl
              obtain ⟨bx, hx, q15⟩ := q15
              have q16 : act.eval (.tmp 16) = .bool true := hF.val 13 _ 16 rfl (hall 13 (by simp)) rfl
              have hact := hF.act [76, 77, 78, 79, 80, 81, 82, 83, 75, 84, 85, 15, 16] (by kernel_rfl)
              have hst := hI.st
              rw [hall 7 (by simp), if_pos rfl] at hst
              have hchg := hI.chg
              have hgrw := hI.grow
              obtain ⟨hx0, hx1, hx2, hx3, hbx⟩ := hI.box bx hx
              rw [hall 12 (by simp), if_pos rfl] at hbx
              clear hF hall hI
              simp only [List.foldl_cons, List.foldl_nil] at hact
              rw [q76, q77, q78, q79, q80, q81, q82, q83, q75, q84, q85, q15, q16] at hact
              clear q76 q77 q78 q79 q80 q81 q82 q83 q75 q84 q85 q15 q16
              simp only [List.setIfInBounds_toArray, List.set_cons_succ, List.set_cons_zero] at hact
              subst hact
              obtain ⟨hFg, hFr, hOgg, hOgr, hQ3, hcl, hclk2, ht2, htk, hA⟩ := HH.out
              rw [hA] at hbx
              have hn7 : ∀ q, q < w6.heap.size → ¬ O2 q → ¬ x.1 q := fun q hq hn e => by
                rcases hgrw q e with z | z
                · exact hn z
                · omega
              have hFg7 := hFg.but hchg hOgg
              have hFr7 := hFr.but hchg hOgr
              obtain ⟨eb, heb⟩ : ∃ eb, wz.heap.size = eb := ⟨_, rfl⟩
              obtain ⟨W9, hW9', hb79, hs9, hE9⟩ := one_new wz [.float .f64 y.b, .int .i64 y.v] 35
              have hW9 : wz.alloc (.cells #[.float .f64 y.b, .int .i64 y.v] 35) = W9 := hW9'
              rw [heb] at hE9 hs9
              have hFg9 := hFg7.but (S := fun _ => False) (But.of_below hb79) id
              have hSrc : Src Try.prog 2 66 (.slice (some ⟨eb, 0, none⟩) 1 1) 1 (encI (y.b, y.v)) W9 := src_new 2 W9 Try.underlying66 eb _ rfl (fun i u hu => hE9.cell i u hu) (flatI_one [(y.b, y.v)])
              have HAP := hidq (And.intro hFg9 hSrc)
              have g0 := (hbx.get 0 _ rfl).1
              have g1 := (hbx.get 1 _ rfl).1
              have g2 := (hbx.get 2 _ rfl).1
              have hgl := hbx.lt
              have FIN := hidq (fun g' c' W (hF : Flat 2 W g' c' (j + 1) (flatI (kit (K.take j)) ++ encI (y.b, y.v))) (hB : But (fun q => q = gg) W9 W) (hg : g' = gg ∨ W9.heap.size ≤ g') => (show CQ2 w sb mb K k gr cr (j + 1) g' c' W from by
                have s6 := hchg.size
                have sF := hFg.lt
                have sR := hFr.lt
                have hgO : ¬ x.1 gg := hn7 _ sF hOgg
                refine ⟨x.1, M1, h1', t2, (hst.below hb79).but hB (fun q hq e => hgO (e ▸ hq)) (fun e => hgsb e.symm) (fun q e => by omega), hQ3, by omega, by omega, ?_, ?_, ?_, ?_, ?_, hn7 _ sR hOgr, (hFr7.but (S := fun _ => False) (But.of_below hb79) id).but hB (fun e => hgne e.symm)⟩
                · rcases hg with rfl | hg
                  · exact hgg
                  · have := hst.low.size; omega
                · rcases hg with rfl | hg
                  · exact hgO
                  · intro e; have := hst.mem.lt _ e; omega
                · rcases hg with rfl | hg
                  · exact hgne
                  · omega
                · rcases hg with rfl | hg
                  · exact hgsb
                  · have := hst.box.lt; omega
                · rw [HMN.out.2, htk]
                  have : flatI (kit (K.take j ++ [y])) = flatI (kit (K.take j)) ++ encI (y.b, y.v) := by
                    unfold kit; rw [List.map_append, flatI_append]; rfl
                  rw [this]; exact hF))
              have hjs : j + 1 ≤ 31 := by omega
              clear hFg hFr hOgg hOgr hQ3 hcl hclk2 ht2 htk hA hn7 hFg7 hFr7 hb79 hE9 hFg9 hSrc HH HS2 hT2 hst hchg hgrw hbx hx hx0 hx1 hx2 hx3 HAl hW9' hs9
              subst heb
              subst hW9
              go_wp2_with (at_builtin; refine wpList_flat plainI _ rfl (.tmp 90) (.tmp 93) rfl gg cg j (flatI (kit (K.take j))) rfl HAP.out.1 _ rfl 1 (encI (y.b, y.v)) HAP.out.2 (by omega) ?_; intro g9 c9 w9 hF9 hB9 hg9)
              have HZ := hidq (FIN.out g9 c9 w9 hF9 hB9 hg9)
              clear hF9 hB9 hg9 FIN HAP
              go_wp2
              go_roundw
              case rel => exact ⟨j + 1, g9, c9, by rw [HMN.out.2], by go_num, hjs, HZ⟩
              case measure => simp [intOf]; omega
          · have hje : j = 31 := by omega
            subst hje
            have hmin : min 31 k = k := by omega
            have htk : K.take 31 = K := List.take_of_length_le (by rw [HKL.out]; omega)
            rw [hmin, htk] at hFg
            rw [hmin]
            have hA := hidq (are_any gg cg gr cr k K w6 (flat_row (by rw [HKL.out]; exact hFg) (by rw [HKL.out]; omega)) hFr HKL.out)
            have HB := hidq (fun W (hW : Below w6.heap.size w6 W) => HW0.out.trans ((hS2.low.trans (hW.mono hS2.low.size)).mono HW0.out.size))
            clear hS2 HS2 hQ2 hclk2 ht2 hgg hOgg hgne hgsb hFg hOgr hFr hT2 hmin htk r2
            go_wp2_with fail
            refine hA.out.mono ?_
            rintro e w7 ⟨rfl, hb7⟩
            have HZ := hidq (HB.out _ hb7)
            clear hb7
            go_wp2
            go_ret
            exact ⟨rfl, HZ.out⟩
      · have hd1 : decide ((k : Int) < 30) = false := decide_eq_false h''
        have hd2 : decide (k < 30) = false := decide_eq_false (by omega)
        clear hlt h''
        go_wp2_with fail
        obtain ⟨gg, hgg⟩ : ∃ gg, wr.heap.size = gg := ⟨_, rfl⟩
        obtain ⟨W5, hW5⟩ : ∃ W5, wr.alloc (.cells #[] 35) = W5 := ⟨_, rfl⟩
        have HT2 : Hid (CQ2 w sb mb K k gr cr 0 gg 0 W5) := by rw [← hgg, ← hW5]; exact HT1
        rw [hgg, hW5]
        clear HT1 hgg hW5
        go_loopw [13, 72] (fun s13 s72 wr => ∃ (j gg cg : Nat), s13 = .slice (some ⟨gg, 0, none⟩) (min j k) cg ∧ s72 = .int .i64 (j : Int) ∧ j ≤ 31 ∧ Hid (CQ2 w sb mb K k gr cr j gg cg wr)) (fun _ s72 _ => 31 - (intOf s72).toNat)
        case atStart => exact ⟨0, gg, 0, by rw [Nat.zero_min], rfl, Nat.zero_le _, HT2⟩
        case round =>
          clear HT2
          obtain ⟨w6, hw6⟩ : ∃ w6, w6 = wr := ⟨_, rfl⟩
          subst hw6
          obtain ⟨j, gg, cg, rfl, rfl, hj31, hT2⟩ := hrel
          obtain ⟨O2, M2, h2, t2, hS2, hQ2, ht2, hclk2, hgg, hOgg, hgne, hgsb, hFg, hOgr, hFr⟩ := hT2.out
          have r2 := (hS2.box.get 0 _ rfl).1
          have HS2 := hidq hS2
          by_cases hj : j < 31
          · have hj2 : (j : Int) < 31 := by omega
            have hbase := aloneK_any 1 (kstep_is 1 (by decide)) (kFine 1 (by decide)) mb
            have hcl := alone_clock (kFine 1 (by decide)) 30 M2 (Fr.of 4 0 0 (Z j) (j : Int))
            rcases deq_alone (k := 1) 0 0 (Z j) (j : Int) 30 (by decide) hQ2 (by decide) (by omega) with ⟨hnil, M1, h1', t1', ha, hQ1, ht1⟩ | ⟨x, M1, h1', ha, hx, hQ1⟩
            · rw [show ((1 : Nat) : Int) = 1 from rfl] at ha
              obtain ⟨A, hA⟩ : ∃ A : Ans, A = Ans.zero := ⟨_, rfl⟩
              have hjk : k ≤ j := by
                have := congrArg List.length hnil
                rw [List.length_drop, HKL.out] at this
                simp at this; omega
              have hdr1 : K.drop (j + 1) = [] := List.drop_eq_nil_of_le (by rw [HKL.out]; omega)
              have htk : K.take (j + 1) = K.take j := by rw [List.take_of_length_le (by rw [HKL.out]; omega), List.take_of_length_le (by rw [HKL.out]; omega)]
              have hmin : min (j + 1) k = min j k := by omega
              rw [ha] at hcl
              have HAl := hidq (fun W (O : Nat → Prop) (hM : MemAt W mb O M2) => (show Calls Try.prog 13 #[.iface 57 (.agg #[.int .i64 1]), .pointer (some ⟨mb, 0, none⟩), .agg #[.int .i64 4, .float .f64 0, .int .i64 0, .int .i64 (Z j), .int .i64 (j : Int)], .int .i64 30] W fun e w' =>
                    e = .returned (.tuple #[.agg #[.bool A.ok, .float .f64 A.pri, .int .i64 A.val, .int .i64 A.n], .bool true]) ∧ ∃ O', MemAt w' mb O' M1 ∧ Grown O W w' O' ∧ But O W w' from by
                have := hbase O M2 4 0 0 (Z j) (j : Int) 30 W hM (kGood.start (by decide) 4 0 _ _ _ (.inr rfl) (by decide) hQ2.km) (by decide) (by omega)
                rw [show (30 : Int).toNat = 30 from rfl, ha] at this
                rw [hA]
                exact this))
              have HH := hidq (And.intro hFg (And.intro hFr (And.intro hOgg (And.intro hOgr (And.intro hQ1 (And.intro ht1 (And.intro (show M1.clock ≤ M2.clock + 30 from hcl) (And.intro hclk2 (And.intro ht2 (And.intro hdr1 (And.intro htk hA)))))))))))
              have hAok : A.ok = false := by rw [hA]; rfl
              have HMN := hidq hmin
              clear hFg hFr hOgg hOgr hQ2 hclk2 hcl hdr1 htk hS2 hmin hA hQ1 ha ht1 ht2 hbase hnil
              generalize min j k = mj at *
              go_wp2_with fail
              refine Reg.wp_region_ghost (Reg.gofList (queue18R mb db j Z A)) Ar.Pres (Ar.GI w w6 O2 sb [.int .i64 1] mb M2 M1 A 7 11 12) (O2, none) (by kernel_rfl) (by kernel_rfl) (Reg.GAllKept.at _ (queue18R_kept mb db j Z A)) (Ar.GI.start HS2.out _) ⟨?_, ?_, ?_, ?_, ?_, ?_, ?_, ?_, ?_, ?_, ?_, ?_, ?_, ?_, trivial⟩ ?_
              · refine Reg.GStepAt.plain (i := 0) rfl ?_
                intro x L ev w hI hk hp hA
                have e5 : ev (.tmp 5) = .pointer (some ⟨sb, 0, none⟩) := hA.oldNone 5 (by kernel_rfl)
                have hcc := hA.const
                clear hA hp
                have f0 := (hI.st.box.get 0 _ rfl).1
                refine Reg.out_value (v := .agg #[.int .i64 1]) ?_ ⟨x, rfl, Ar.Pres.refl _ _ _, hI.quiet 0 (by decide) (by decide) (by decide)⟩
                go_simp
              · refine Reg.GStepAt.plain (i := 1) rfl ?_
                intro x L ev w hI hk hp hA
                have e76 : ev (.tmp 76) = .agg #[.int .i64 1] := hA.val 0 _ 76 rfl (hp ⟨0, .data⟩ (by simp) rfl) rfl
                have hcc := hA.const
                clear hA hp
                refine Reg.out_value (v := .iface 57 (.agg #[.int .i64 1])) ?_ ⟨x, rfl, Ar.Pres.refl _ _ _, hI.quiet 1 (by decide) (by decide) (by decide)⟩
                go_simp
              · refine Reg.GStepAt.plain (i := 2) rfl ?_
                intro x L ev w hI hk hp hA
                have e8 : ev (.tmp 8) = .pointer (some ⟨mb, 0, none⟩) := hA.oldNone 8 (by kernel_rfl)
                have hcc := hA.const
                clear hA hp
                refine Reg.out_value (v := .pointer (some ⟨mb, 0, none⟩)) ?_ ⟨x, rfl, Ar.Pres.refl _ _ _, hI.quiet 2 (by decide) (by decide) (by decide)⟩
                go_simp
              · refine Reg.GStepAt.plain (i := 3) rfl ?_
                intro x L ev w hI hk hp hA
                have e7 : ev (.tmp 7) = .func (.func 22) #[] #[.pointer (some ⟨db, 0, none⟩)] := hA.oldNone 7 (by kernel_rfl)
                have hcc := hA.const
                clear hA hp
                refine Reg.out_value (v := .func (.func 22) #[] #[.pointer (some ⟨db, 0, none⟩)]) ?_ ⟨x, rfl, Ar.Pres.refl _ _ _, hI.quiet 3 (by decide) (by decide) (by decide)⟩
                go_simp
              · refine Reg.GStepAt.plain (i := 4) rfl ?_
                intro x L ev w hI hk hp hA
                have e14 : ev (.tmp 14) = .int .i64 (j : Int) := hA.oldNone 14 (by kernel_rfl)
                have hcc := hA.const
                clear hA hp
                refine Reg.out_value (v := .int .i64 (j : Int)) ?_ ⟨x, rfl, Ar.Pres.refl _ _ _, hI.quiet 4 (by decide) (by decide) (by decide)⟩
                go_simp
              · refine Reg.GStepAt.plain (i := 5) rfl ?_
                intro x L ev w hI hk hp hA
                have e79 : ev (.tmp 79) = .func (.func 22) #[] #[.pointer (some ⟨db, 0, none⟩)] := hA.val 3 _ 79 rfl (hp ⟨3, .data⟩ (by simp) rfl) rfl
                have e80 : ev (.tmp 80) = .int .i64 (j : Int) := hA.val 4 _ 80 rfl (hp ⟨4, .data⟩ (by simp) rfl) rfl
                have hcc := hA.const
                clear hA hp
                refine Reg.out_call (f := 22) (args := #[.int .i64 (j : Int), .pointer (some ⟨db, 0, none⟩)]) (w0 := w) ?_ ?_
                · go_simp
                refine (hDr.out w hI.st.low j (by omega)).mono ?_
                rintro e w' ⟨rfl, hb'⟩
                exact ⟨_, rfl, x, rfl, Ar.Pres.refl _ _ _, (hI.below hb').quiet 5 (by decide) (by decide) (by decide)⟩
              · refine Reg.GStepAt.plain (i := 6) rfl ?_
                intro x L ev w hI hk hp hA
                have e81 : ev (.tmp 81) = .agg #[.int .i64 (Z j), .int .i64 (j : Int)] := hA.val 5 _ 81 rfl (hp ⟨5, .data⟩ (by simp) rfl) rfl
                have hcc := hA.const
                clear hA hp
                refine Reg.out_value (v := .agg #[.int .i64 4, .float .f64 0, .int .i64 0, .int .i64 (Z j), .int .i64 (j : Int)]) ?_ ⟨x, rfl, Ar.Pres.refl _ _ _, hI.quiet 6 (by decide) (by decide) (by decide)⟩
                go_simp
              · refine Reg.GStepAt.plain (i := 7) rfl ?_
                intro x L ev w hI hk hp hA
                have e77 : ev (.tmp 77) = .iface 57 (.agg #[.int .i64 1]) := hA.val 1 _ 77 rfl (hp ⟨1, .data⟩ (by simp) rfl) rfl
                have e78 : ev (.tmp 78) = .pointer (some ⟨mb, 0, none⟩) := hA.val 2 _ 78 rfl (hp ⟨2, .data⟩ (by simp) rfl) rfl
                have e82 : ev (.tmp 82) = .agg #[.int .i64 4, .float .f64 0, .int .i64 0, .int .i64 (Z j), .int .i64 (j : Int)] := hA.val 6 _ 82 rfl (hp ⟨6, .data⟩ (by simp) rfl) rfl
                have hcc := hA.const
                have hcf := hA.func
                clear hA hp
                refine Reg.out_call (f := 13) (args := #[.iface 57 (.agg #[.int .i64 1]), .pointer (some ⟨mb, 0, none⟩), .agg #[.int .i64 4, .float .f64 0, .int .i64 0, .int .i64 (Z j), .int .i64 (j : Int)], .int .i64 30]) (w0 := w) ?_ ?_
                · go_simp
                refine (HAl.out w x.1 (hI.mem0 hk)).mono ?_
                rintro e w' ⟨rfl, O', h1, h2, h3⟩
                exact ⟨_, rfl, (O', x.2), rfl, fun _ h => h, hI.call hk (by decide) (by decide) h1 h2 h3⟩
              · refine Reg.GStepAt.plain (i := 8) rfl ?_
                intro x L ev w hI hk hp hA
                have e83 : ev (.tmp 83) = .tuple #[.agg #[.bool A.ok, .float .f64 A.pri, .int .i64 A.val, .int .i64 A.n], .bool true] := hA.val 7 _ 83 rfl (hp ⟨7, .data⟩ (by simp) rfl) rfl
                have hcc := hA.const
                clear hA hp
                refine Reg.out_value (v := .tuple #[.agg #[.bool A.ok, .float .f64 A.pri, .int .i64 A.val, .int .i64 A.n], .bool true]) ?_ ⟨x, rfl, Ar.Pres.refl _ _ _, hI.quiet 8 (by decide) (by decide) (by decide)⟩
                go_simp
              · refine Reg.GStepAt.plain (i := 9) rfl ?_
                intro x L ev w hI hk hp hA
                have e75 : ev (.tmp 75) = .tuple #[.agg #[.bool A.ok, .float .f64 A.pri, .int .i64 A.val, .int .i64 A.n], .bool true] := hA.val 8 _ 75 rfl (hp ⟨8, .data⟩ (by simp) rfl) rfl
                have hcc := hA.const
                clear hA hp
                refine Reg.out_value (v := .agg #[.bool A.ok, .float .f64 A.pri, .int .i64 A.val, .int .i64 A.n]) ?_ ⟨x, rfl, Ar.Pres.refl _ _ _, hI.quiet 9 (by decide) (by decide) (by decide)⟩
                go_simp
              · refine Reg.GStepAt.plain (i := 10) rfl ?_
                intro x L ev w hI hk hp hA
                have e75 : ev (.tmp 75) = .tuple #[.agg #[.bool A.ok, .float .f64 A.pri, .int .i64 A.val, .int .i64 A.n], .bool true] := hA.val 8 _ 75 rfl (hp ⟨8, .data⟩ (by simp) rfl) rfl
                have hcc := hA.const
                clear hA hp
                refine Reg.out_value (v := .bool true) ?_ ⟨x, rfl, Ar.Pres.refl _ _ _, hI.quiet 10 (by decide) (by decide) (by decide)⟩
                go_simp
              · refine Reg.GStepAt.plain (i := 11) rfl ?_
                intro x L ev w hI hk hp hA
                have hcc := hA.const
                have hSf : L.getD 12 false = false := by
                  cases hq : L.getD 12 false with
                  | false => rfl
                  | true => have := hA.closed 12 _ rfl hq ⟨11, .data⟩ (by simp) rfl; rw [show (⟨11, .data⟩ : Edge).on = 11 from rfl, Ar.getD_false hk] at this; cases this
                clear hA hp
                refine Reg.out_new (v := .pointer (some ⟨w.heap.size, 0, none⟩)) (w' := w.alloc (.cells Ans.zero.l.toArray 48)) ?_ ⟨(x.1, some w.heap.size), ⟨_, rfl, rfl⟩, fun b hb => (by rw [hI.no (Ar.getD_false hk)] at hb; cases hb), hI.alloc hk hSf (by decide) (by decide) _⟩
                (go_simp; try rfl)
              · refine Reg.GStepAt.plain (i := 12) rfl ?_
                intro x L ev w hI hk hp hA
                have e15 : ∃ bx, x.2 = some bx ∧ ev (.tmp 15) = .pointer (some ⟨bx, 0, none⟩) := hA.val 11 _ 15 rfl (hp ⟨11, .data⟩ (by simp) rfl) rfl
                have e84 : ev (.tmp 84) = .agg #[.bool A.ok, .float .f64 A.pri, .int .i64 A.val, .int .i64 A.n] := hA.val 9 _ 84 rfl (hp ⟨9, .data⟩ (by simp) rfl) rfl
                have hcc := hA.const
                clear hA hp
                obtain ⟨bx, hx, e15⟩ := e15
                have hbx := (hI.box bx hx).2.2.2.2
                rw [Ar.getD_false hk] at hbx
                obtain ⟨g0, x0⟩ := hbx.get 0 _ rfl
                obtain ⟨g1, x1⟩ := hbx.get 1 _ rfl
                obtain ⟨g2, x2⟩ := hbx.get 2 _ rfl
                obtain ⟨g3, x3⟩ := hbx.get 3 _ rfl
                refine Ar.out_skip (w' := setBox w bx A.s) ?_ ⟨x, trivial, Ar.Pres.refl _ _ _, hI.store hk (by decide) (by decide) hx⟩
                clear hbx
                simp only [setBox]
                go_simp
              · refine Reg.GStepAt.plain (i := 13) rfl ?_
                intro x L ev w hI hk hp hA
                have e85 : ev (.tmp 85) = .bool true := hA.val 10 _ 85 rfl (hp ⟨10, .data⟩ (by simp) rfl) rfl
                have hcc := hA.const
                clear hA hp
                refine Reg.out_value (v := .bool true) ?_ ⟨x, rfl, Ar.Pres.refl _ _ _, hI.quiet 13 (by decide) (by decide) (by decide)⟩
                go_simp
              intro x L act wz hall hI hF
              have q76 : act.eval (.tmp 76) = .agg #[.int .i64 1] := hF.val 0 _ 76 rfl (hall 0 (by simp)) rfl
              have q77 : act.eval (.tmp 77) = .iface 57 (.agg #[.int .i64 1]) := hF.val 1 _ 77 rfl (hall 1 (by simp)) rfl
              have q78 : act.eval (.tmp 78) = .pointer (some ⟨mb, 0, none⟩) := hF.val 2 _ 78 rfl (hall 2 (by simp)) rfl
              have q79 : act.eval (.tmp 79) = .func (.func 22) #[] #[.pointer (some ⟨db, 0, none⟩)] := hF.val 3 _ 79 rfl (hall 3 (by simp)) rfl
              have q80 : act.eval (.tmp 80) = .int .i64 (j : Int) := hF.val 4 _ 80 rfl (hall 4 (by simp)) rfl
              have q81 : act.eval (.tmp 81) = .agg #[.int .i64 (Z j), .int .i64 (j : Int)] := hF.val 5 _ 81 rfl (hall 5 (by simp)) rfl
              have q82 : act.eval (.tmp 82) = .agg #[.int .i64 4, .float .f64 0, .int .i64 0, .int .i64 (Z j), .int .i64 (j : Int)] := hF.val 6 _ 82 rfl (hall 6 (by simp)) rfl
              have q83 : act.eval (.tmp 83) = .tuple #[.agg #[.bool A.ok, .float .f64 A.pri, .int .i64 A.val, .int .i64 A.n], .bool true] := hF.val 7 _ 83 rfl (hall 7 (by simp)) rfl
              have q75 : act.eval (.tmp 75) = .tuple #[.agg #[.bool A.ok, .float .f64 A.pri, .int .i64 A.val, .int .i64 A.n], .bool true] := hF.val 8 _ 75 rfl (hall 8 (by simp)) rfl
              have q84 : act.eval (.tmp 84) = .agg #[.bool A.ok, .float .f64 A.pri, .int .i64 A.val, .int .i64 A.n] := hF.val 9 _ 84 rfl (hall 9 (by simp)) rfl
              have q85 : act.eval (.tmp 85) = .bool true := hF.val 10 _ 85 rfl (hall 10 (by simp)) rfl
              have q15 : ∃ bx, x.2 = some bx ∧ act.eval (.tmp 15) = .pointer (some ⟨bx, 0, none⟩) := hF.val 11 _ 15 rfl (hall 11 (by simp)) rfl
              obtain ⟨bx, hx, q15⟩ := q15
              have q16 : act.eval (.tmp 16) = .bool true := hF.val 13 _ 16 rfl (hall 13 (by simp)) rfl
              have hact := hF.act [76, 77, 78, 79, 80, 81, 82, 83, 75, 84, 85, 15, 16] (by kernel_rfl)
              have hst := hI.st
              rw [hall 7 (by simp), if_pos rfl] at hst
              have hchg := hI.chg
              have hgrw := hI.grow
              obtain ⟨hx0, hx1, hx2, hx3, hbx⟩ := hI.box bx hx
              rw [hall 12 (by simp), if_pos rfl] at hbx
              clear hF hall hI
              simp only [List.foldl_cons, List.foldl_nil] at hact
              rw [q76, q77, q78, q79, q80, q81, q82, q83, q75, q84, q85, q15, q16] at hact
              clear q76 q77 q78 q79 q80 q81 q82 q83 q75 q84 q85 q15 q16
              simp only [List.setIfInBounds_toArray, List.set_cons_succ, List.set_cons_zero] at hact
              subst hact
              obtain ⟨hFg, hFr, hOgg, hOgr, hQ1, ht1, hcl, hclk2, ht2, hdr1, htk, hA⟩ := HH.out
              have g0 := (hbx.get 0 _ rfl).1
              rw [hAok] at g0
              have hgl := hbx.lt
              have hn7 : ∀ q, q < w6.heap.size → ¬ O2 q → ¬ x.1 q := fun q hq hn e => by
                rcases hgrw q e with z | z
                · exact hn z
                · omega
              have HZ := hidq (show CQ2 w sb mb K k gr cr (j + 1) gg cg wz from
                ⟨x.1, M1, h1', t1', hst, by rw [hdr1]; exact hQ1, by omega, by omega, hgg, hn7 _ hFg.lt hOgg, hgne, hgsb, by rw [HMN.out, htk]; exact hFg.but hchg hOgg, hn7 _ hFr.lt hOgr, hFr.but hchg hOgr⟩)
              have hjs : j + 1 ≤ 31 := by omega
              clear hFg hFr hOgg hOgr hQ1 ht1 hcl hclk2 ht2 hdr1 htk hA hn7 HH HS2 hT2 hst hchg hgrw hbx hx hx0 hx1 hx2 hx3 HAl
              go_wp2
              go_roundw
              case rel => exact ⟨j + 1, gg, cg, by rw [HMN.out], by go_num, hjs, HZ⟩
              case measure => simp [intOf]; omega
            · rw [show ((1 : Nat) : Int) = 1 from rfl] at ha
              have hjk : j < k := by
                rcases Nat.lt_or_ge j k with e | e
                · exact e
                · rw [List.drop_eq_nil_of_le (by rw [HKL.out]; exact e)] at hx; simp at hx
              have hjl : j < K.length := by rw [HKL.out]; exact hjk
              have hdr : K.drop j = K[j] :: K.drop (j + 1) := List.drop_eq_getElem_cons hjl
              have htk : K.take (j + 1) = K.take j ++ [K[j]] := List.take_succ_eq_append_getElem hjl
              have hxe : x = K[j] := by rw [hdr, show (1 : Nat) = 0 + 1 from rfl, List.take_succ_cons, List.take_zero] at hx; exact List.mem_singleton.1 hx
              rw [← hxe] at hdr htk
              have hQ3 : QI 1 M1 h1' t2 (K.drop (j + 1)) := by rw [hdr, List.erase_cons_head] at hQ1; exact hQ1
              obtain ⟨y, hy⟩ : ∃ y, x = y := ⟨_, rfl⟩
              obtain ⟨A, hA⟩ : ∃ A : Ans, A = ⟨true, y.b, y.v, 0⟩ := ⟨_, rfl⟩
              rw [hy] at ha htk
              have hmin : min j k = j := by omega
              have hmin1 : min (j + 1) k = j + 1 := by omega
              rw [hmin] at hFg ⊢
              rw [ha] at hcl
              have HAl := hidq (fun W (O : Nat → Prop) (hM : MemAt W mb O M2) => (show Calls Try.prog 13 #[.iface 57 (.agg #[.int .i64 1]), .pointer (some ⟨mb, 0, none⟩), .agg #[.int .i64 4, .float .f64 0, .int .i64 0, .int .i64 (Z j), .int .i64 (j : Int)], .int .i64 30] W fun e w' =>
                    e = .returned (.tuple #[.agg #[.bool A.ok, .float .f64 A.pri, .int .i64 A.val, .int .i64 A.n], .bool true]) ∧ ∃ O', MemAt w' mb O' M1 ∧ Grown O W w' O' ∧ But O W w' from by
                have := hbase O M2 4 0 0 (Z j) (j : Int) 30 W hM (kGood.start (by decide) 4 0 _ _ _ (.inr rfl) (by decide) hQ2.km) (by decide) (by omega)
                rw [show (30 : Int).toNat = 30 from rfl, ha] at this
                rw [hA]
                exact this))
              have HH := hidq (And.intro hFg (And.intro hFr (And.intro hOgg (And.intro hOgr (And.intro hQ3 (And.intro (show M1.clock ≤ M2.clock + 30 from hcl) (And.intro hclk2 (And.intro ht2 (And.intro htk hA)))))))))
              have hAe := hA
              have HMN := hidq (And.intro hmin hmin1)
              clear hFg hFr hOgg hOgr hQ2 hclk2 hcl htk hS2 hmin hmin1 hA hQ1 hQ3 ha ht2 hbase hdr hxe hx hy hAe
              go_wp2_with fail
              refine Reg.wp_region_ghost (Reg.gofList (queue18R mb db j Z A)) Ar.Pres (Ar.GI w w6 O2 sb [.int .i64 1] mb M2 M1 A 7 11 12) (O2, none) (by kernel_rfl) (by kernel_rfl) (Reg.GAllKept.at _ (queue18R_kept mb db j Z A)) (Ar.GI.start HS2.out _) ⟨?_, ?_, ?_, ?_, ?_, ?_, ?_, ?_, ?_, ?_, ?_, ?_, ?_, ?_, trivial⟩ ?_
              · refine Reg.GStepAt.plain (i := 0) rfl ?_
                intro x L ev w hI hk hp hA
                have e5 : ev (.tmp 5) = .pointer (some ⟨sb, 0, none⟩) := hA.oldNone 5 (by kernel_rfl)
                have hcc := hA.const
                clear hA hp
                have f0 := (hI.st.box.get 0 _ rfl).1
                refine Reg.out_value (v := .agg #[.int .i64 1]) ?_ ⟨x, rfl, Ar.Pres.refl _ _ _, hI.quiet 0 (by decide) (by decide) (by decide)⟩
                go_simp
              · refine Reg.GStepAt.plain (i := 1) rfl ?_
                intro x L ev w hI hk hp hA
                have e76 : ev (.tmp 76) = .agg #[.int .i64 1] := hA.val 0 _ 76 rfl (hp ⟨0, .data⟩ (by simp) rfl) rfl
                have hcc := hA.const
                clear hA hp
                refine Reg.out_value (v := .iface 57 (.agg #[.int .i64 1])) ?_ ⟨x, rfl, Ar.Pres.refl _ _ _, hI.quiet 1 (by decide) (by decide) (by decide)⟩
                go_simp
              · refine Reg.GStepAt.plain (i := 2) rfl ?_
                intro x L ev w hI hk hp hA
                have e8 : ev (.tmp 8) = .pointer (some ⟨mb, 0, none⟩) := hA.oldNone 8 (by kernel_rfl)
                have hcc := hA.const
                clear hA hp
                refine Reg.out_value (v := .pointer (some ⟨mb, 0, none⟩)) ?_ ⟨x, rfl, Ar.Pres.refl _ _ _, hI.quiet 2 (by decide) (by decide) (by decide)⟩
                go_simp
              · refine Reg.GStepAt.plain (i := 3) rfl ?_
                intro x L ev w hI hk hp hA
                have e7 : ev (.tmp 7) = .func (.func 22) #[] #[.pointer (some ⟨db, 0, none⟩)] := hA.oldNone 7 (by kernel_rfl)
                have hcc := hA.const
                clear hA hp
                refine Reg.out_value (v := .func (.func 22) #[] #[.pointer (some ⟨db, 0, none⟩)]) ?_ ⟨x, rfl, Ar.Pres.refl _ _ _, hI.quiet 3 (by decide) (by decide) (by decide)⟩
                go_simp
              · refine Reg.GStepAt.plain (i := 4) rfl ?_
                intro x L ev w hI hk hp hA
                have e14 : ev (.tmp 14) = .int .i64 (j : Int) := hA.oldNone 14 (by kernel_rfl)
                have hcc := hA.const
                clear hA hp
                refine Reg.out_value (v := .int .i64 (j : Int)) ?_ ⟨x, rfl, Ar.Pres.refl _ _ _, hI.quiet 4 (by decide) (by decide) (by decide)⟩
                go_simp
              · refine Reg.GStepAt.plain (i := 5) rfl ?_
                intro x L ev w hI hk hp hA
                have e79 : ev (.tmp 79) = .func (.func 22) #[] #[.pointer (some ⟨db, 0, none⟩)] := hA.val 3 _ 79 rfl (hp ⟨3, .data⟩ (by simp) rfl) rfl
                have e80 : ev (.tmp 80) = .int .i64 (j : Int) := hA.val 4 _ 80 rfl (hp ⟨4, .data⟩ (by simp) rfl) rfl
                have hcc := hA.const
                clear hA hp
                refine Reg.out_call (f := 22) (args := #[.int .i64 (j : Int), .pointer (some ⟨db, 0, none⟩)]) (w0 := w) ?_ ?_
                · go_simp
                refine (hDr.out w hI.st.low j (by omega)).mono ?_
                rintro e w' ⟨rfl, hb'⟩
                exact ⟨_, rfl, x, rfl, Ar.Pres.refl _ _ _, (hI.below hb').quiet 5 (by decide) (by decide) (by decide)⟩
              · refine Reg.GStepAt.plain (i := 6) rfl ?_
                intro x L ev w hI hk hp hA
                have e81 : ev (.tmp 81) = .agg #[.int .i64 (Z j), .int .i64 (j : Int)] := hA.val 5 _ 81 rfl (hp ⟨5, .data⟩ (by simp) rfl) rfl
                have hcc := hA.const
                clear hA hp
                refine Reg.out_value (v := .agg #[.int .i64 4, .float .f64 0, .int .i64 0, .int .i64 (Z j), .int .i64 (j : Int)]) ?_ ⟨x, rfl, Ar.Pres.refl _ _ _, hI.quiet 6 (by decide) (by decide) (by decide)⟩
                go_simp
              · refine Reg.GStepAt.plain (i := 7) rfl ?_
                intro x L ev w hI hk hp hA
                have e77 : ev (.tmp 77) = .iface 57 (.agg #[.int .i64 1]) := hA.val 1 _ 77 rfl (hp ⟨1, .data⟩ (by simp) rfl) rfl
                have e78 : ev (.tmp 78) = .pointer (some ⟨mb, 0, none⟩) := hA.val 2 _ 78 rfl (hp ⟨2, .data⟩ (by simp) rfl) rfl
                have e82 : ev (.tmp 82) = .agg #[.int .i64 4, .float .f64 0, .int .i64 0, .int .i64 (Z j), .int .i64 (j : Int)] := hA.val 6 _ 82 rfl (hp ⟨6, .data⟩ (by simp) rfl) rfl
                have hcc := hA.const
                have hcf := hA.func
                clear hA hp
                refine Reg.out_call (f := 13) (args := #[.iface 57 (.agg #[.int .i64 1]), .pointer (some ⟨mb, 0, none⟩), .agg #[.int .i64 4, .float .f64 0, .int .i64 0, .int .i64 (Z j), .int .i64 (j : Int)], .int .i64 30]) (w0 := w) ?_ ?_
                · go_simp
                refine (HAl.out w x.1 (hI.mem0 hk)).mono ?_
                rintro e w' ⟨rfl, O', h1, h2, h3⟩
                exact ⟨_, rfl, (O', x.2), rfl, fun _ h => h, hI.call hk (by decide) (by decide) h1 h2 h3⟩
              · refine Reg.GStepAt.plain (i := 8) rfl ?_
                intro x L ev w hI hk hp hA
                have e83 : ev (.tmp 83) = .tuple #[.agg #[.bool A.ok, .float .f64 A.pri, .int .i64 A.val, .int .i64 A.n], .bool true] := hA.val 7 _ 83 rfl (hp ⟨7, .data⟩ (by simp) rfl) rfl
                have hcc := hA.const
                clear hA hp
                refine Reg.out_value (v := .tuple #[.agg #[.bool A.ok, .float .f64 A.pri, .int .i64 A.val, .int .i64 A.n], .bool true]) ?_ ⟨x, rfl, Ar.Pres.refl _ _ _, hI.quiet 8 (by decide) (by decide) (by decide)⟩
                go_simp
              · refine Reg.GStepAt.plain (i := 9) rfl ?_
                intro x L ev w hI hk hp hA
                have e75 : ev (.tmp 75) = .tuple #[.agg #[.bool A.ok, .float .f64 A.pri, .int .i64 A.val, .int .i64 A.n], .bool true] := hA.val 8 _ 75 rfl (hp ⟨8, .data⟩ (by simp) rfl) rfl
                have hcc := hA.const
                clear hA hp
                refine Reg.out_value (v := .agg #[.bool A.ok, .float .f64 A.pri, .int .i64 A.val, .int .i64 A.n]) ?_ ⟨x, rfl, Ar.Pres.refl _ _ _, hI.quiet 9 (by decide) (by decide) (by decide)⟩
                go_simp
              · refine Reg.GStepAt.plain (i := 10) rfl ?_
                intro x L ev w hI hk hp hA
                have e75 : ev (.tmp 75) = .tuple #[.agg #[.bool A.ok, .float .f64 A.pri, .int .i64 A.val, .int .i64 A.n], .bool true] := hA.val 8 _ 75 rfl (hp ⟨8, .data⟩ (by simp) rfl) rfl
                have hcc := hA.const
                clear hA hp
                refine Reg.out_value (v := .bool true) ?_ ⟨x, rfl, Ar.Pres.refl _ _ _, hI.quiet 10 (by decide) (by decide) (by decide)⟩
                go_simp
              · refine Reg.GStepAt.plain (i := 11) rfl ?_
                intro x L ev w hI hk hp hA
                have hcc := hA.const
                have hSf : L.getD 12 false = false := by
                  cases hq : L.getD 12 false with
                  | false => rfl
                  | true => have := hA.closed 12 _ rfl hq ⟨11, .data⟩ (by simp) rfl; rw [show (⟨11, .data⟩ : Edge).on = 11 from rfl, Ar.getD_false hk] at this; cases this
                clear hA hp
                refine Reg.out_new (v := .pointer (some ⟨w.heap.size, 0, none⟩)) (w' := w.alloc (.cells Ans.zero.l.toArray 48)) ?_ ⟨(x.1, some w.heap.size), ⟨_, rfl, rfl⟩, fun b hb => (by rw [hI.no (Ar.getD_false hk)] at hb; cases hb), hI.alloc hk hSf (by decide) (by decide) _⟩
                (go_simp; try rfl)
              · refine Reg.GStepAt.plain (i := 12) rfl ?_
                intro x L ev w hI hk hp hA
                have e15 : ∃ bx, x.2 = some bx ∧ ev (.tmp 15) = .pointer (some ⟨bx, 0, none⟩) := hA.val 11 _ 15 rfl (hp ⟨11, .data⟩ (by simp) rfl) rfl
                have e84 : ev (.tmp 84) = .agg #[.bool A.ok, .float .f64 A.pri, .int .i64 A.val, .int .i64 A.n] := hA.val 9 _ 84 rfl (hp ⟨9, .data⟩ (by simp) rfl) rfl
                have hcc := hA.const
                clear hA hp
                obtain ⟨bx, hx, e15⟩ := e15
                have hbx := (hI.box bx hx).2.2.2.2
                rw [Ar.getD_false hk] at hbx
                obtain ⟨g0, x0⟩ := hbx.get 0 _ rfl
                obtain ⟨g1, x1⟩ := hbx.get 1 _ rfl
                obtain ⟨g2, x2⟩ := hbx.get 2 _ rfl
                obtain ⟨g3, x3⟩ := hbx.get 3 _ rfl
                refine Ar.out_skip (w' := setBox w bx A.s) ?_ ⟨x, trivial, Ar.Pres.refl _ _ _, hI.store hk (by decide) (by decide) hx⟩
                clear hbx
                simp only [setBox]
                go_simp
              · refine Reg.GStepAt.plain (i := 13) rfl ?_
                intro x L ev w hI hk hp hA
                have e85 : ev (.tmp 85) = .bool true := hA.val 10 _ 85 rfl (hp ⟨10, .data⟩ (by simp) rfl) rfl
                have hcc := hA.const
                clear hA hp
                refine Reg.out_value (v := .bool true) ?_ ⟨x, rfl, Ar.Pres.refl _ _ _, hI.quiet 13 (by decide) (by decide) (by decide)⟩
                go_simp
              intro x L act wz hall hI hF
              have q76 : act.eval (.tmp 76) = .agg #[.int .i64 1] := hF.val 0 _ 76 rfl (hall 0 (by simp)) rfl
              have q77 : act.eval (.tmp 77) = .iface 57 (.agg #[.int .i64 1]) := hF.val 1 _ 77 rfl (hall 1 (by simp)) rfl
              have q78 : act.eval (.tmp 78) = .pointer (some ⟨mb, 0, none⟩) := hF.val 2 _ 78 rfl (hall 2 (by simp)) rfl
              have q79 : act.eval (.tmp 79) = .func (.func 22) #[] #[.pointer (some ⟨db, 0, none⟩)] := hF.val 3 _ 79 rfl (hall 3 (by simp)) rfl
              have q80 : act.eval (.tmp 80) = .int .i64 (j : Int) := hF.val 4 _ 80 rfl (hall 4 (by simp)) rfl
              have q81 : act.eval (.tmp 81) = .agg #[.int .i64 (Z j), .int .i64 (j : Int)] := hF.val 5 _ 81 rfl (hall 5 (by simp)) rfl
              have q82 : act.eval (.tmp 82) = .agg #[.int .i64 4, .float .f64 0, .int .i64 0, .int .i64 (Z j), .int .i64 (j : Int)] := hF.val 6 _ 82 rfl (hall 6 (by simp)) rfl
              have q83 : act.eval (.tmp 83) = .tuple #[.agg #[.bool A.ok, .float .f64 A.pri, .int .i64 A.val, .int .i64 A.n], .bool true] := hF.val 7 _ 83 rfl (hall 7 (by simp)) rfl
              have q75 : act.eval (.tmp 75) = .tuple #[.agg #[.bool A.ok, .float .f64 A.pri, .int .i64 A.val, .int .i64 A.n], .bool true] := hF.val 8 _ 75 rfl (hall 8 (by simp)) rfl
              have q84 : act.eval (.tmp 84) = .agg #[.bool A.ok, .float .f64 A.pri, .int .i64 A.val, .int .i64 A.n] := hF.val 9 _ 84 rfl (hall 9 (by simp)) rfl
              have q85 : act.eval (.tmp 85) = .bool true := hF.val 10 _ 85 rfl (hall 10 (by simp)) rfl
              have q15 : ∃ bx, x.2 = some bx ∧ act.eval (.tmp 15) = .pointer (some ⟨bx, 0, none⟩) := hF.val 11 _ 15 rfl (hall 11 (by simp)) rfl
              obtain ⟨bx, hx, q15⟩ := q15
              have q16 : act.eval (.tmp 16) = .bool true := hF.val 13 _ 16 rfl (hall 13 (by simp)) rfl
              have hact := hF.act [76, 77, 78, 79, 80, 81, 82, 83, 75, 84, 85, 15, 16] (by kernel_rfl)
              have hst := hI.st
              rw [hall 7 (by simp), if_pos rfl] at hst
              have hchg := hI.chg
              have hgrw := hI.grow
              obtain ⟨hx0, hx1, hx2, hx3, hbx⟩ := hI.box bx hx
              rw [hall 12 (by simp), if_pos rfl] at hbx
              clear hF hall hI
              simp only [List.foldl_cons, List.foldl_nil] at hact
              rw [q76, q77, q78, q79, q80, q81, q82, q83, q75, q84, q85, q15, q16] at hact
              clear q76 q77 q78 q79 q80 q81 q82 q83 q75 q84 q85 q15 q16
              simp only [List.setIfInBounds_toArray, List.set_cons_succ, List.set_cons_zero] at hact
              subst hact
              obtain ⟨hFg, hFr, hOgg, hOgr, hQ3, hcl, hclk2, ht2, htk, hA⟩ := HH.out
              rw [hA] at hbx
              have hn7 : ∀ q, q < w6.heap.size → ¬ O2 q → ¬ x.1 q := fun q hq hn e => by
                rcases hgrw q e with z | z
                · exact hn z
                · omega
              have hFg7 := hFg.but hchg hOgg
              have hFr7 := hFr.but hchg hOgr
              obtain ⟨eb, heb⟩ : ∃ eb, wz.heap.size = eb := ⟨_, rfl⟩
              obtain ⟨W9, hW9', hb79, hs9, hE9⟩ := one_new wz [.float .f64 y.b, .int .i64 y.v] 35
              have hW9 : wz.alloc (.cells #[.float .f64 y.b, .int .i64 y.v] 35) = W9 := hW9'
              rw [heb] at hE9 hs9
              have hFg9 := hFg7.but (S := fun _ => False) (But.of_below hb79) id
              have hSrc : Src Try.prog 2 66 (.slice (some ⟨eb, 0, none⟩) 1 1) 1 (encI (y.b, y.v)) W9 := src_new 2 W9 Try.underlying66 eb _ rfl (fun i u hu => hE9.cell i u hu) (flatI_one [(y.b, y.v)])
              have HAP := hidq (And.intro hFg9 hSrc)
              have g0 := (hbx.get 0 _ rfl).1
              have g1 := (hbx.get 1 _ rfl).1
              have g2 := (hbx.get 2 _ rfl).1
              have hgl := hbx.lt
              have FIN := hidq (fun g' c' W (hF : Flat 2 W g' c' (j + 1) (flatI (kit (K.take j)) ++ encI (y.b, y.v))) (hB : But (fun q => q = gg) W9 W) (hg : g' = gg ∨ W9.heap.size ≤ g') => (show CQ2 w sb mb K k gr cr (j + 1) g' c' W from by
                have s6 := hchg.size
                have sF := hFg.lt
                have sR := hFr.lt
                have hgO : ¬ x.1 gg := hn7 _ sF hOgg
                refine ⟨x.1, M1, h1', t2, (hst.below hb79).but hB (fun q hq e => hgO (e ▸ hq)) (fun e => hgsb e.symm) (fun q e => by omega), hQ3, by omega, by omega, ?_, ?_, ?_, ?_, ?_, hn7 _ sR hOgr, (hFr7.but (S := fun _ => False) (But.of_below hb79) id).but hB (fun e => hgne e.symm)⟩
                · rcases hg with rfl | hg
                  · exact hgg
                  · have := hst.low.size; omega
                · rcases hg with rfl | hg
                  · exact hgO
                  · intro e; have := hst.mem.lt _ e; omega
                · rcases hg with rfl | hg
                  · exact hgne
                  · omega
                · rcases hg with rfl | hg
                  · exact hgsb
                  · have := hst.box.lt; omega
                · rw [HMN.out.2, htk]
                  have : flatI (kit (K.take j ++ [y])) = flatI (kit (K.take j)) ++ encI (y.b, y.v) := by
                    unfold kit; rw [List.map_append, flatI_append]; rfl
                  rw [this]; exact hF))
              have hjs : j + 1 ≤ 31 := by omega
              clear hFg hFr hOgg hOgr hQ3 hcl hclk2 ht2 htk hA hn7 hFg7 hFr7 hb79 hE9 hFg9 hSrc HH HS2 hT2 hst hchg hgrw hbx hx hx0 hx1 hx2 hx3 HAl hW9' hs9
              subst heb
              subst hW9
              go_wp2_with (at_builtin; refine wpList_flat plainI _ rfl (.tmp 90) (.tmp 93) rfl gg cg j (flatI (kit (K.take j))) rfl HAP.out.1 _ rfl 1 (encI (y.b, y.v)) HAP.out.2 (by omega) ?_; intro g9 c9 w9 hF9 hB9 hg9)
              have HZ := hidq (FIN.out g9 c9 w9 hF9 hB9 hg9)
              clear hF9 hB9 hg9 FIN HAP
              go_wp2
              go_roundw
              case rel => exact ⟨j + 1, g9, c9, by rw [HMN.out.2], by go_num, hjs, HZ⟩
              case measure => simp [intOf]; omega
          · have hje : j = 31 := by omega
            subst hje
            have hmin : min 31 k = k := by omega
            have htk : K.take 31 = K := List.take_of_length_le (by rw [HKL.out]; omega)
            rw [hmin, htk] at hFg
            rw [hmin]
            have hA := hidq (are_any gg cg gr cr k K w6 (flat_row (by rw [HKL.out]; exact hFg) (by rw [HKL.out]; omega)) hFr HKL.out)
            have HB := hidq (fun W (hW : Below w6.heap.size w6 W) => HW0.out.trans ((hS2.low.trans (hW.mono hS2.low.size)).mono HW0.out.size))
            clear hS2 HS2 hQ2 hclk2 ht2 hgg hOgg hgne hgsb hFg hOgr hFr hT2 hmin htk r2
            go_wp2_with fail
            refine hA.out.mono ?_
            rintro e w7 ⟨rfl, hb7⟩
            have HZ := hidq (HB.out _ hb7)
            clear hb7
            go_wp2
            go_ret
            exact ⟨rfl, HZ.out⟩
end Go.Proofs.Ytclcmabohpoaiaa
