/-
  Layer 5, the document's memory: a write: contract.
  The program's memory and the document's: what one says of the other.
  Layer 5, the document's memory: a write, and where its blocks lie: contract.
  Layer 5: one cell of a memory is laid anew, the clock stays.
  Layer 5: a memory's copy: contract.
  Layer 5's law of any calls: what a store into a box leaves; both memories' writes: mathematics.
  The low bits of an int.
  Layer 5's laws: a cell's number, most of the first ten: contract.
-/
import Derived.Test.YtepigofpcjmddaaFits5All
import Derived.Test.YtepigofpcjmddaaTail
import Derived.Test.YtepigofpcjmddaaOwn5All
import Derived.Test.YtepigofpcjmddaaChecked
import Derived.WalkKit
import Derived.Laws.Bits128
namespace Go.Proofs.Ytepigofpcjmddaa
open Go.RowKit Go.Sort

def rwr5R (b4 lo n cap l c : Nat) (a s : Option Addr) (i x : Int) (FP : List Value) : List (Value → World → Prop) :=
  [fun v w => ∃ g, v = .slice (some ⟨g, 0, none⟩) 0 0 ∧ Flat 3 w g 0 0 [] ∧ lo ≤ g,
   fun v _ => v = .pointer (some ⟨b4, 0, none⟩),
   fun v _ => v = .slice a n cap,
   fun v w => ∃ g q, v = .slice (some ⟨g, 0, none⟩) n q ∧ Flat 3 w g q n FP ∧ lo ≤ g,
   fun v _ => v = .int .i64 i,
   fun v _ => v = .agg #[.int .i64 x, .slice s l c],
   fun v _ => v = .agg #[.int .i64 i, .int .i64 x, .slice s l c],
   fun v w => ∃ g, v = .slice (some ⟨g, 0, none⟩) 1 1 ∧ BoxAt w g [.int .i64 i, .int .i64 x, .slice s l c] ∧ lo ≤ g]
theorem rwr5R_kept (b4 lo n cap l c : Nat) (a s : Option Addr) (i x : Int) (FP : List Value) : Reg.AllKept Reg.Keeps (rwr5R b4 lo n cap l c a s i x FP) :=
  ⟨(fun v w w' hk h => by obtain ⟨g, h1, h2, h3⟩ := h; exact ⟨g, h1, h2.but (S := fun _ => False) (But.of_below hk) id, h3⟩), (fun _ _ _ _ h => h), (fun _ _ _ _ h => h), (fun v w w' hk h => by obtain ⟨g, q, h1, h2, h3⟩ := h; exact ⟨g, q, h1, h2.but (S := fun _ => False) (But.of_below hk) id, h3⟩), (fun _ _ _ _ h => h), (fun _ _ _ _ h => h), (fun _ _ _ _ h => h), (fun v w w' hk h => by obtain ⟨g, h1, h2, h3⟩ := h; exact ⟨g, h1, h2.below hk, h3⟩), trivial⟩

theorem plainP : PlainK Try.prog 3 51 130 := by
  have h : (Try.prog.info? 130).map (fun i => (i.zero, i.size, i.bytes)) = some (some (.agg #[.int .i64 0, .int .i64 0, .slice none 0 0]), 3, 40) := by kernel_rfl
  obtain ⟨i, hi, he⟩ := Option.map_eq_some_iff.1 h
  simp only [Prod.mk.injEq] at he
  exact ⟨i, _, Try.underlying51, hi, he.1, he.2.1, rfl, by rw [he.2.2]; decide⟩

/-- May a cell be written? -/
def rcan (ps : List RP) (i ver : Int) : Bool := decide (0 ≤ i ∧ i < 1000) && (((rread ps i ps.length).1 : Int) == ver)
theorem flatP_snoc (ps : List RP) (A : Nat → Option Addr) (C : Nat → Nat) (p : RP) (s : Option Addr) (c : Nat) :
    flatP (ps ++ [p]) (fun j => if j = ps.length then s else A j) (fun j => if j = ps.length then c else C j) = flatP ps A C ++ [.int .i64 p.c, .int .i64 p.x, .slice s p.L.length c] := by
  apply List.ext_getElem?
  intro t
  by_cases h1 : t < ps.length * 3
  · rw [List.getElem?_append_left (by rw [flatP_length]; exact h1), flatP_get _ _ _ _ (by simp; omega), flatP_get _ _ _ _ h1]
    have hq : t / 3 < ps.length := by omega
    unfold cellP
    dsimp only
    rw [if_neg (show ¬ t / 3 = ps.length by omega), if_neg (show ¬ t / 3 = ps.length by omega)]
    have : (ps ++ [p])[t / 3]! = ps[t / 3]! := by rw [getElem!_pos (ps ++ [p]) (t / 3) (by simp; omega), getElem!_pos ps (t / 3) hq, List.getElem_append_left hq]
    rw [this]
  · by_cases h2 : t < ps.length * 3 + 3
    · rw [List.getElem?_append_right (by rw [flatP_length]; omega), flatP_length, flatP_get _ _ _ _ (by simp; omega)]
      have hq : t / 3 = ps.length := by omega
      have hp : (ps ++ [p])[ps.length]! = p := by rw [getElem!_pos (ps ++ [p]) ps.length (by simp)]; simp
      unfold cellP
      dsimp only
      rw [hq, hp, if_pos rfl, if_pos rfl]
      have : t = ps.length * 3 ∨ t = ps.length * 3 + 1 ∨ t = ps.length * 3 + 2 := by omega
      rcases this with rfl | rfl | rfl
      · rw [if_pos (by omega), Nat.sub_self]; rfl
      · rw [if_neg (by omega), if_pos (by omega), Nat.add_sub_cancel_left]; rfl
      · rw [if_neg (by omega), if_neg (by omega), Nat.add_sub_cancel_left]; rfl
    · rw [List.getElem?_eq_none (by rw [flatP_length]; simp; omega), List.getElem?_eq_none (by simp [flatP_length]; omega)]

/-- How a write ends. -/
def RWEnd (a : Option Addr) (cap n : Nat) (ps : List RP) (i ver x : Int) (L : List KI) (w : World) (e : Ending) (w' : World) : Prop :=
  Below w.heap.size w w' ∧ ((rcan ps i ver = true ∧ ∃ a' cap', e = .returned (.tuple #[.agg #[.slice a' (n + 1) cap'], .bool true]) ∧ RefAt w' a' cap' (ps ++ [(i, x, L)])) ∨ (rcan ps i ver = false ∧ e = .returned (.tuple #[.agg #[.slice a n cap], .bool false])))

set_option maxRecDepth 20000 in
set_option maxHeartbeats 4000000 in
theorem rwrite5_any (a : Option Addr) (cap n : Nat) (ps : List RP) (i ver x : Int) (s : Option Addr) (l c : Nat) (L : List KI) (w : World) (h : RefAt w a cap ps) (hn : ps.length = n) (hn2 : n ≤ 100000) (hS : SlAt 2 w s c l (flatR L)) (hl : L.length = l) :
    Calls Try.prog 54 #[.agg #[.slice a n cap], .int .i64 i, .int .i64 ver, .agg #[.int .i64 x, .slice s l c]] w (RWEnd a cap n ps i ver x L w) := by
  obtain ⟨W1, hW1⟩ : ∃ W1, ((w.alloc (.cells #[.slice a n cap] 53)).alloc (.cells #[.int .i64 x, .slice s l c] 58)).alloc (.cells #[.slice none 0 0] 53) = W1 := ⟨_, rfl⟩
  have hb0 : Below w.heap.size w W1 := by rw [← hW1]; exact (((Below.refl _ _).alloc (Nat.le_refl _) _).alloc (by simp) _).alloc (by simp; omega) _
  have hsz : W1.heap.size = w.heap.size + 3 := by rw [← hW1]; simp
  have hB4 : BoxAt W1 w.heap.size [.slice a n cap] := by
    rw [← hW1]
    exact ((BoxAt.new w [.slice a n cap] 53).below ((Below.refl _ _).alloc (Nat.le_refl _) _)).below ((Below.refl _ _).alloc (Nat.le_refl _) _)
  have hB7 : BoxAt W1 (w.heap.size + 1) [.int .i64 x, .slice s l c] := by
    have q := BoxAt.new (w.alloc (.cells #[.slice a n cap] 53)) [.int .i64 x, .slice s l c] 58
    rw [World.size_alloc] at q
    rw [← hW1]; exact q.below ((Below.refl _ _).alloc (Nat.le_refl _) _)
  have hB8 : BoxAt W1 (w.heap.size + 1 + 1) [.slice none 0 0] := by
    have q := BoxAt.new ((w.alloc (.cells #[.slice a n cap] 53)).alloc (.cells #[.int .i64 x, .slice s l c] 58)) [.slice none 0 0] 53
    rw [World.size_alloc, World.size_alloc] at q
    rw [← hW1]; exact q
  have hRd := hidq (rread5_any a cap n ps i W1 (h.below hb0) hn (by omega))
  have HH := hidq (And.intro h (And.intro hn (And.intro hS hl)))
  have r4 := (hB4.get 0 _ rfl).1
  have HB := hidq (And.intro hB4 (And.intro hB7 hB8))
  have HB0 := hidq hb0
  have hrc : rcan ps i ver = (decide (0 ≤ i ∧ i < 1000) && (((rread ps i n).1 : Int) == ver)) := by unfold rcan; rw [hn]
  have HRC := hidq hrc
  obtain ⟨rc, hrcd⟩ : ∃ rc, rcan ps i ver = rc := ⟨_, rfl⟩
  rw [hrcd] at HRC
  have RCF := hidq (fun (h : rc = false) => hrcd.trans h)
  have RCT0 := hidq hrcd
  clear hrcd
  generalize rread ps i n = rd at *
  clear h hS hl hB4 hB7 hB8 hb0 hrc hn
  go_enter Try.func54, Try.ntmps54
  go_wp2_with fail
  refine hRd.out.mono ?_
  rintro e w2 ⟨s2, c2, rfl, _, hb2⟩
  obtain ⟨rv, rp⟩ := rd
  dsimp only at *
  obtain ⟨b4, hb4⟩ : ∃ b4, w.heap.size = b4 := ⟨_, rfl⟩
  rw [hb4]
  obtain ⟨W3, hW3⟩ : ∃ W3, w2.alloc (.cells #[.int .i64 rp.x, .slice s2 rp.L.length c2] 58) = W3 := ⟨_, rfl⟩
  have hb23 : Below w2.heap.size w2 W3 := by rw [← hW3]; exact (Below.refl _ _).alloc (Nat.le_refl _) _
  have hb13 : Below W1.heap.size W1 W3 := hb2.trans (hb23.mono hb2.size)
  have hb03 : Below w.heap.size w W3 := HB0.out.trans (hb13.mono HB0.out.size)
  obtain ⟨hB4, hB7, hB8⟩ := HB.out
  have hB43 := hB4.below hb13
  have hB73 := hB7.below hb13
  have hB83 := hB8.below hb13
  rw [hb4] at hB43 hB73 hB83
  have HB3 := hidq (And.intro hB43 (And.intro hB73 hB83))
  have HL := hidq hb03
  have q4 := (hB43.get 0 _ rfl).1
  obtain ⟨q8, z8⟩ := hB83.get 0 _ rfl
  have hW3s : b4 + 3 ≤ W3.heap.size := by have := hb13.size; omega
  clear hb2 hb23 hb13 hb03 hB4 hB7 hB8 hB43 hB73 hB83 hRd r4 HB HB0 hW1
  have t8 : (W3.setCell ⟨b4 + 1 + 1, 0, none⟩ (.slice a n cap)).cell? ⟨b4 + 1 + 1, 0, none⟩ = some (.slice a n cap) := World.cell?_setCell_same' _ _ _ (by rw [q8]; rfl)
  have T8 := hidq t8
  clear t8
  have FAIL := hidq (fun (hf : rc = false) => (show ∃ v, v = (.tuple #[.agg #[.slice a n cap], .bool false] : Value) ∧ RWEnd a cap n ps i ver x L w (.returned v) (W3.setCell ⟨b4 + 1 + 1, 0, none⟩ (.slice a n cap)) from
    ⟨_, rfl, HL.out.setCell (by show w.heap.size ≤ b4 + 1 + 1; omega) _, .inr ⟨RCF.out hf, rfl⟩⟩))
  by_cases hneg : i < 0
  · have hf : rc = false := by rw [HRC.out]; simp; intro h; omega
    obtain ⟨v, rfl, hE⟩ := FAIL.out hf
    have HE := hidq hE
    clear FAIL hE HRC hf
    go_wp2
    refine bodyPost_ret (v := .tuple #[.agg #[.slice a n cap], .bool false]) ?_ rfl HE.out
    have t8 := T8.out; simp [results, Try.results54, go_sem, t8]
  · have hd0 : decide (i < 0) = false := decide_eq_false hneg
    by_cases hbig : 1000 ≤ i
    · have hf : rc = false := by rw [HRC.out]; simp; intro h; omega
      obtain ⟨v, rfl, hE⟩ := FAIL.out hf
      have HE := hidq hE
      clear FAIL hE HRC hf
      go_wp2
      refine bodyPost_ret (v := .tuple #[.agg #[.slice a n cap], .bool false]) ?_ rfl HE.out
      have t8 := T8.out; simp [results, Try.results54, go_sem, t8]
    · have hd1 : decide (1000 ≤ i) = false := decide_eq_false hbig
      by_cases hv : (rv : Int) = ver
      · have ht : rc = true := by rw [HRC.out]; simp [hv]; omega
        have hv2 : ((rv : Int) == ver) = true := by simpa using hv
        have RCT := hidq (RCT0.out.trans ht)
        clear ht RCF
        clear FAIL HRC
        go_wp2_with fail
        obtain ⟨lo, hlo⟩ : ∃ lo, W3.heap.size = lo := ⟨_, rfl⟩
        obtain ⟨b7, hb7⟩ : ∃ b7, b4 + 1 = b7 := ⟨_, rfl⟩
        obtain ⟨HR, hn, hS, hl⟩ := HH.out
        obtain ⟨A, C, hRs, hRi⟩ := HR
        obtain ⟨FP, hFP⟩ : ∃ FP, flatP ps A C = FP := ⟨_, rfl⟩
        have FSg := hidq (fun W (hW : Below W3.heap.size W3 W) => (show Src Try.prog 3 51 (.slice a n cap) n FP W from by
          have hW0 := HL.out.trans (hW.mono HL.out.size)
          have q := (hRs.below hW0).src (P := Try.prog) Try.underlying51
          rw [hFP, hn] at q; exact q))
        have FC := hidq (fun W (hW : Below W3.heap.size W3 W) => (show W.cell? ⟨b4, 0, none⟩ = some (.slice a n cap) ∧ W.cell? ⟨b7, 0, none⟩ = some (.int .i64 x) ∧ W.cell? ⟨b7, 1, none⟩ = some (.slice s l c) from by
          obtain ⟨h1, h2, h3⟩ := HB3.out
          have e1 := (h1.below hW).get 0 _ rfl
          have e2 := (h2.below hW).get 0 _ rfl
          have e3 := (h2.below hW).get 1 _ rfl
          rw [hb7] at e2 e3
          exact ⟨e1.1, e2.1, e3.1⟩))
        have HX := hidq (And.intro hRs (And.intro hRi (And.intro hFP (And.intro hS (And.intro hl hn)))))
        have hb8e : b4 + 1 + 1 = b7 + 1 := by omega
        clear hRs hRi hFP hS hl hn q4 q8 z8
        rw [hb7]
        have hrefl : ∀ w : World, Reg.Keeps w w := Reg.Keeps.refl
        refine Reg.wp_region_props_tail 8 (Reg.ofList (rwr5R b4 lo n cap l c a s i x FP)) Reg.Keeps (fun _ w => Reg.Keeps W3 w) (by kernel_rfl) (by kernel_rfl) (by kernel_rfl) (Reg.AllKept.at _ (rwr5R_kept b4 lo n cap l c a s i x FP)) hrefl (Reg.Keeps.drewN (Reg.Keeps.refl _) 1) ⟨?_, ?_, ?_, ?_, ?_, ?_, ?_, ?_, trivial⟩ ?_
        · refine Reg.StepAt.plain (i := 0) rfl ?_
          intro L ev w hI hk hp hA
          have hcc := hA.const
          clear hA hp
          refine Reg.out_new (v := .slice (some ⟨w.heap.size, 0, none⟩) 0 0) (w' := w.alloc (.cells #[] 130)) ?_ ⟨⟨w.heap.size, rfl, Flat.new w [] 130 3 0 rfl (Nat.zero_le _) (fun _ h => (by cases h)), by have h1 : W3.heap.size ≤ w.heap.size := hI.size; omega⟩, (Reg.Keeps.refl _).alloc _, Reg.Keeps.alloc hI _⟩
          go_simp
        · refine Reg.StepAt.plain (i := 1) rfl ?_
          intro L ev w hI hk hp hA
          have e4 : ev (.tmp 4) = .pointer (some ⟨b4, 0, none⟩) := hA.oldNone 4 (by kernel_rfl)
          have hcc := hA.const
          clear hA hp
          refine Reg.out_value (v := .pointer (some ⟨b4, 0, none⟩)) ?_ ⟨rfl, hrefl _, hI⟩
          go_simp
        · refine Reg.StepAt.plain (i := 2) rfl ?_
          intro L ev w hI hk hp hA
          have e31 : ev (.tmp 31) = .pointer (some ⟨b4, 0, none⟩) := hA.val 1 _ 31 rfl (hp ⟨1, .data⟩ (by simp) rfl) rfl
          have hcc := hA.const
          clear hA hp
          obtain ⟨f0, f1, f2⟩ := FC.out w hI
          refine Reg.out_value (v := .slice a n cap) ?_ ⟨rfl, hrefl _, hI⟩
          go_simp
        · refine Reg.StepAt.plain (i := 3) rfl ?_
          intro L ev w hI hk hp hA
          have e30 : (fun v w => ∃ g, v = .slice (some ⟨g, 0, none⟩) 0 0 ∧ Flat 3 w g 0 0 [] ∧ lo ≤ g) (ev (.tmp 30)) w := hA.val 0 _ 30 rfl (hp ⟨0, .data⟩ (by simp) rfl) rfl
          have e32 : ev (.tmp 32) = .slice a n cap := hA.val 2 _ 32 rfl (hp ⟨2, .data⟩ (by simp) rfl) rfl
          have hcc := hA.const
          clear hA hp
          obtain ⟨g, e30, hf, hlg⟩ := e30
          obtain ⟨g', q', w', hrun, hF', hb', hg'⟩ := fresh_append plainP 51 w g hf _ n FP (FSg.out w hI) (by omega)
          refine Reg.out_new (v := .slice (some ⟨g', 0, none⟩) n q') (w' := w') ?_ ⟨⟨g', q', rfl, hF', by have h1 : W3.heap.size ≤ w.heap.size := hI.size; omega⟩, hb', Reg.Keeps.trans hI hb'⟩
          simp [execOp, resolve, invoke, builtin, e30, e32, hrun, Result.andThen]
        · refine Reg.StepAt.plain (i := 4) rfl ?_
          intro L ev w hI hk hp hA
          have e1 : ev (.tmp 1) = .int .i64 i := hA.oldNone 1 (by kernel_rfl)
          have hcc := hA.const
          clear hA hp
          refine Reg.out_value (v := .int .i64 i) ?_ ⟨rfl, hrefl _, hI⟩
          go_simp
        · refine Reg.StepAt.plain (i := 5) rfl ?_
          intro L ev w hI hk hp hA
          have e7 : ev (.tmp 7) = .pointer (some ⟨b7, 0, none⟩) := hA.oldNone 7 (by kernel_rfl)
          have hcc := hA.const
          clear hA hp
          obtain ⟨f0, f1, f2⟩ := FC.out w hI
          refine Reg.out_value (v := .agg #[.int .i64 x, .slice s l c]) ?_ ⟨rfl, hrefl _, hI⟩
          go_simp
        · refine Reg.StepAt.plain (i := 6) rfl ?_
          intro L ev w hI hk hp hA
          have e34 : ev (.tmp 34) = .int .i64 i := hA.val 4 _ 34 rfl (hp ⟨4, .data⟩ (by simp) rfl) rfl
          have e35 : ev (.tmp 35) = .agg #[.int .i64 x, .slice s l c] := hA.val 5 _ 35 rfl (hp ⟨5, .data⟩ (by simp) rfl) rfl
          have hcc := hA.const
          clear hA hp
          refine Reg.out_value (v := .agg #[.int .i64 i, .int .i64 x, .slice s l c]) ?_ ⟨rfl, hrefl _, hI⟩
          go_simp
        · refine Reg.StepAt.plain (i := 7) rfl ?_
          intro L ev w hI hk hp hA
          have e36 : ev (.tmp 36) = .agg #[.int .i64 i, .int .i64 x, .slice s l c] := hA.val 6 _ 36 rfl (hp ⟨6, .data⟩ (by simp) rfl) rfl
          have hcc := hA.const
          clear hA hp
          refine Reg.out_new (v := .slice (some ⟨w.heap.size, 0, none⟩) 1 1) (w' := w.alloc (.cells #[.int .i64 i, .int .i64 x, .slice s l c] 130)) ?_ ⟨⟨w.heap.size, rfl, BoxAt.new w [.int .i64 i, .int .i64 x, .slice s l c] 130, by have h1 : W3.heap.size ≤ w.heap.size := hI.size; omega⟩, (Reg.Keeps.refl _).alloc _, Reg.Keeps.alloc hI _⟩
          go_simp
        intro act wz hI hF
        have g30 : (fun v w => ∃ g, v = .slice (some ⟨g, 0, none⟩) 0 0 ∧ Flat 3 w g 0 0 [] ∧ lo ≤ g) (act.eval (.tmp 30)) wz := hF.val 0 _ 30 rfl (by kernel_rfl) rfl
        have g31 : act.eval (.tmp 31) = .pointer (some ⟨b4, 0, none⟩) := hF.val 1 _ 31 rfl (by kernel_rfl) rfl
        have g32 : act.eval (.tmp 32) = .slice a n cap := hF.val 2 _ 32 rfl (by kernel_rfl) rfl
        have g33 : (fun v w => ∃ g q, v = .slice (some ⟨g, 0, none⟩) n q ∧ Flat 3 w g q n FP ∧ lo ≤ g) (act.eval (.tmp 33)) wz := hF.val 3 _ 33 rfl (by kernel_rfl) rfl
        have g34 : act.eval (.tmp 34) = .int .i64 i := hF.val 4 _ 34 rfl (by kernel_rfl) rfl
        have g35 : act.eval (.tmp 35) = .agg #[.int .i64 x, .slice s l c] := hF.val 5 _ 35 rfl (by kernel_rfl) rfl
        have g36 : act.eval (.tmp 36) = .agg #[.int .i64 i, .int .i64 x, .slice s l c] := hF.val 6 _ 36 rfl (by kernel_rfl) rfl
        have g37 : (fun v w => ∃ g, v = .slice (some ⟨g, 0, none⟩) 1 1 ∧ BoxAt w g [.int .i64 i, .int .i64 x, .slice s l c] ∧ lo ≤ g) (act.eval (.tmp 37)) wz := hF.val 7 _ 37 rfl (by kernel_rfl) rfl
        have hact := hF.actHead [30, 31, 32, 33, 34, 35, 36, 37] (by kernel_rfl)
        clear hF
        simp only [List.foldl_cons, List.foldl_nil] at hact
        rw [g31, g32, g34, g35, g36] at hact
        clear g31 g32 g34 g35 g36
        generalize act.eval (.tmp 30) = u30 at hact g30
        generalize act.eval (.tmp 33) = u33 at hact g33
        generalize act.eval (.tmp 37) = u37 at hact g37
        simp only [List.setIfInBounds_toArray, List.set_cons_succ, List.set_cons_zero] at hact
        subst hact
        simp only [List.drop_succ_cons, List.drop_zero]
        obtain ⟨g1, c1, rfl, hF1, hg1⟩ := g33
        obtain ⟨g2, rfl, hG2, hg2⟩ := g37
        have hIz : Below W3.heap.size W3 wz := hI
        have hSr : Src Try.prog 3 51 (.slice (some ⟨g2, 0, none⟩) 1 1) 1 [.int .i64 i, .int .i64 x, .slice s l c] wz := src_new 3 wz Try.underlying51 g2 _ rfl (fun j u hu => hG2.cell j u hu) (by intro u hu; simp at hu; rcases hu with rfl | rfl | rfl <;> rfl)
        have HAP := hidq (And.intro hF1 hSr)
        obtain ⟨hRs, hRi, hFP, hS, hl, hn⟩ := HX.out
        have hB8z := HB3.out.2.2.below hIz
        rw [hb8e] at hB8z
        obtain ⟨q8, z8⟩ := hB8z.get 0 _ rfl
        have hlz := hIz.size
        have FIN := hidq (fun g3 c3 w5 (hF : Flat 3 w5 g3 c3 (n + 1) (FP ++ [.int .i64 i, .int .i64 x, .slice s l c])) (hB : But (fun j => j = g1) wz w5) (hg : g3 = g1 ∨ wz.heap.size ≤ g3) => (show BoxAt w5 (b7 + 1) [.slice none 0 0] ∧ RWEnd a cap n ps i ver x L w (.returned (.tuple #[.agg #[.slice (some ⟨g3, 0, none⟩) (n + 1) c3], .bool true])) (w5.setCell ⟨b7 + 1, 0, none⟩ (.slice (some ⟨g3, 0, none⟩) (n + 1) c3)) from by
          have hw5 : Below w.heap.size w w5 := (HL.out.trans (hIz.mono HL.out.size)).trans (hB.below (by have := HL.out.size; omega) (fun k e => by have := HL.out.size; omega))
          have hset : But (fun j => j = b7 + 1) w5 (w5.setCell ⟨b7 + 1, 0, none⟩ (.slice (some ⟨g3, 0, none⟩) (n + 1) c3)) := (But.refl (fun j => j = b7 + 1) w5).set1 _ _ rfl _
          have hlt : ∀ k, k < w.heap.size → ¬ (k = b7 + 1) := fun k hk e => by omega
          refine ⟨hB8z.but hB (by omega), hw5.setCell (by show w.heap.size ≤ b7 + 1; omega) _, .inl ⟨RCT.out, some ⟨g3, 0, none⟩, c3, rfl, fun j => if j = ps.length then s else A j, fun j => if j = ps.length then c else C j, ?_, ?_⟩⟩
          · rw [flatP_snoc, hFP]
            refine .inr ⟨g3, rfl, ?_⟩
            have e1 : (ps ++ [((i, x, L) : RP)]).length = n + 1 := by simp [hn]
            rw [e1]
            have e2 : (RP.L (i, x, L)).length = l := hl
            rw [e2]
            exact hF.but hset (by rcases hg with e | e <;> omega)
          · intro j hj
            have hj' : j < ps.length + 1 := by simpa using hj
            by_cases e : j = ps.length
            · dsimp only
              rw [if_pos e, if_pos e, e]
              have hp : (ps ++ [((i, x, L) : RP)])[ps.length]! = (i, x, L) := by rw [getElem!_pos (ps ++ [((i, x, L) : RP)]) ps.length (by simp)]; simp
              rw [hp]
              show SlAt 2 _ s c L.length (flatR L)
              rw [hl]
              exact (hS.below hw5).but hset (fun q hq => hlt q (hS.lt q hq))
            · dsimp only
              rw [if_neg e, if_neg e]
              have hq : j < ps.length := by omega
              have hp : (ps ++ [((i, x, L) : RP)])[j]! = ps[j]! := by rw [getElem!_pos (ps ++ [((i, x, L) : RP)]) j (by simp; omega), getElem!_pos ps j hq, List.getElem_append_left hq]
              rw [hp]
              exact ((hRi j hq).below hw5).but hset (fun q hq' => hlt q ((hRi j hq).lt q hq'))))
        clear hF1 hG2 hIz hSr hRs hRi hFP hS hl hn hB8z HX HB3 FSg FC HL hI HH
        go_wp2_with (at_builtin; refine wpList_flat plainP _ rfl (.tmp 33) (.tmp 37) rfl g1 c1 n FP rfl HAP.out.1 _ rfl 1 _ HAP.out.2 (by omega) ?_; intro g3 c3 w5 hF5 hB5 hg5; obtain ⟨hQ, hE⟩ := FIN.out g3 c3 w5 hF5 hB5 hg5; have HE := hidq hE; obtain ⟨p8, y8⟩ := hQ.get 0 _ rfl; clear q8 z8 hE)
        have T9 := hidq (show (w5.setCell ⟨b7 + 1, 0, none⟩ (.slice (some ⟨g3, 0, none⟩) (n + 1) c3)).cell? ⟨b7 + 1, 0, none⟩ = some (.slice (some ⟨g3, 0, none⟩) (n + 1) c3) from World.cell?_setCell_same' _ _ _ (by rw [p8]; rfl))
        clear hF5 hB5 hg5 FIN HAP hQ
        refine bodyPost_ret (v := .tuple #[.agg #[.slice (some ⟨g3, 0, none⟩) (n + 1) c3], .bool true]) ?_ rfl HE.out
        have t9 := T9.out; simp [results, Try.results54, go_sem, t9]
      · have hf : rc = false := by rw [HRC.out]; simp [hv]
        have hv2 : ((rv : Int) == ver) = false := by simpa using hv
        obtain ⟨v, rfl, hE⟩ := FAIL.out hf
        have HE := hidq hE
        clear FAIL hE HRC hf
        go_wp2
        refine bodyPost_ret (v := .tuple #[.agg #[.slice a n cap], .bool false]) ?_ rfl HE.out
        have t8 := T8.out; simp [results, Try.results54, go_sem, t8]
end Go.Proofs.Ytepigofpcjmddaa

namespace Go.Proofs.Ytepigofpcjmddaa
open Go.RowKit Go.Sort

theorem rread_append (ps : List RP) (p : RP) (i : Int) : ∀ k, k ≤ ps.length → rread (ps ++ [p]) i k = rread ps i k
  | 0, _ => rfl
  | k + 1, h => by
    have hq : k < ps.length := by omega
    have e : (ps ++ [p])[k]! = ps[k]! := by rw [getElem!_pos (ps ++ [p]) k (by simp; omega), getElem!_pos ps k hq, List.getElem_append_left hq]
    by_cases hc : ps[k]!.c = i
    · rw [rread_hit (by rw [e]; exact hc), rread_hit hc, e]
    · rw [rread_miss (by rw [e]; exact hc), rread_miss hc, rread_append ps p i k (by omega)]
theorem rread_snoc_hit (ps : List RP) (p : RP) (i : Int) (h : p.c = i) : rread (ps ++ [p]) i (ps.length + 1) = (ps.length + 1, p) := by
  have e : (ps ++ [p])[ps.length]! = p := by rw [getElem!_pos (ps ++ [p]) ps.length (by simp)]; simp
  rw [rread_hit (by rw [e]; exact h), e]
theorem rread_snoc_miss (ps : List RP) (p : RP) (i : Int) (h : ¬ p.c = i) : rread (ps ++ [p]) i (ps.length + 1) = rread ps i ps.length := by
  have e : (ps ++ [p])[ps.length]! = p := by rw [getElem!_pos (ps ++ [p]) ps.length (by simp)]; simp
  rw [rread_miss (by rw [e]; exact h), rread_append ps p i ps.length (Nat.le_refl _)]

/-- Both memories say the same. -/
structure Rel (M : Mem) (ps : List RP) : Prop where
  clk : M.clock = ps.length
  len : (M.len : Int) = rlen ps ps.length
  rng : ∀ k, k < ps.length → 0 ≤ ps[k]!.c ∧ ps[k]!.c < 1000
  at_ : ∀ i : Int, M.look i = ⟨((rread ps i ps.length).1 : Int), (rread ps i ps.length).2.x, kts (rread ps i ps.length).2.L⟩
theorem Rel.empty : Rel Mem.empty [] := by
  refine ⟨rfl, rfl, fun k hk => absurd hk (Nat.not_lt_zero _), fun i => ?_⟩
  show Mem.empty.look i = _
  unfold Mem.look
  split <;> rfl
theorem Rel.put {M : Mem} {ps : List RP} (h : Rel M ps) (i : Nat) (hi : i < 1000) (x : Int) (L : List KI) : Rel (M.put i x (kts L)) (ps ++ [((i : Int), x, L)]) := by
  have hl : (ps ++ [(((i : Int), x, L) : RP)]).length = ps.length + 1 := by simp
  have e : (ps ++ [(((i : Int), x, L) : RP)])[ps.length]! = ((i : Int), x, L) := by rw [getElem!_pos (ps ++ [(((i : Int), x, L) : RP)]) ps.length (by simp)]; simp
  have e2 : ∀ k, k < ps.length → (ps ++ [(((i : Int), x, L) : RP)])[k]! = ps[k]! := fun k hk => by
    rw [getElem!_pos (ps ++ [(((i : Int), x, L) : RP)]) k (by simp; omega), getElem!_pos ps k hk, List.getElem_append_left hk]
  refine ⟨?_, ?_, ?_, ?_⟩
  · rw [hl, ← h.clk]; rfl
  · rw [hl, rlen_succ _ _ (by rw [hl]; omega), e]
    have : rlen (ps ++ [(((i : Int), x, L) : RP)]) ps.length = rlen ps ps.length := by
      unfold rlen
      rw [List.take_append_of_le_length (Nat.le_refl _)]
    rw [this, ← h.len]
    show ((max M.len (i + 1) : Nat) : Int) = max (M.len : Int) ((i : Int) + 1)
    omega
  · intro k hk
    rw [hl] at hk
    by_cases hk2 : k < ps.length
    · rw [e2 k hk2]; exact h.rng k hk2
    · have : k = ps.length := by omega
      subst this
      rw [e]
      show (0 : Int) ≤ (i : Int) ∧ (i : Int) < 1000
      omega
  · intro j
    rw [hl]
    by_cases hj : (i : Int) = j
    · rw [rread_snoc_hit ps ((i : Int), x, L) j hj, ← hj, look_nat]
      show (if i = i then (⟨((M.clock + 1 : Nat) : Int), x, kts L⟩ : CV) else M.cell i) = ⟨((ps.length + 1 : Nat) : Int), x, kts L⟩
      rw [if_pos rfl, h.clk]
    · rw [rread_snoc_miss ps ((i : Int), x, L) j hj, ← h.at_ j]
      unfold Mem.look
      by_cases hn : j < 0
      · rw [if_pos hn, if_pos hn]
      · rw [if_neg hn, if_neg hn]
        show (if j.toNat = i then _ else M.cell j.toNat) = _
        rw [if_neg (by omega)]
theorem Rel.can {M : Mem} {ps : List RP} (h : Rel M ps) (i v : Int) : M.can i v = rcan ps i v := by
  unfold Mem.can rcan
  rw [h.at_ i]
/-- A write on both. -/
theorem Rel.write {M : Mem} {ps : List RP} (h : Rel M ps) (i v x : Int) (L : List KI) : Rel (M.write i v x (kts L)) (if rcan ps i v = true then ps ++ [(i, x, L)] else ps) := by
  rcases write_as (M := M) (i := i) (v := v) (x := x) (L := kts L) with ⟨h1, h2, k, rfl, hk, _⟩ | ⟨h1, h2⟩
  · rw [h.can] at h1
    rw [h2, if_pos h1]
    exact h.put k hk x L
  · rw [h.can] at h1
    rw [h2, if_neg (by rw [h1]; decide)]
    exact h
end Go.Proofs.Ytepigofpcjmddaa

namespace Go.Proofs.Ytepigofpcjmddaa
open Go.RowKit Go.Sort

/-- The document's memory, all of whose blocks are such. -/
def RefIn (Q : Nat → Prop) (w : World) (a : Option Addr) (cap : Nat) (ps : List RP) : Prop :=
  ∃ A C, SlAt 3 w a cap ps.length (flatP ps A C) ∧ (∀ i, i < ps.length → SlAt 2 w (A i) (C i) ps[i]!.L.length (flatR ps[i]!.L)) ∧ (∀ j, inB a j → Q j) ∧ ∀ i, i < ps.length → ∀ j, inB (A i) j → Q j
theorem RefIn.at {Q : Nat → Prop} {w : World} {a : Option Addr} {cap : Nat} {ps : List RP} (h : RefIn Q w a cap ps) : RefAt w a cap ps := by
  obtain ⟨A, C, h1, h2, _⟩ := h
  exact ⟨A, C, h1, h2⟩
theorem RefIn.but {Q S : Nat → Prop} {w w' : World} {a : Option Addr} {cap : Nat} {ps : List RP} (h : RefIn Q w a cap ps) (hb : But S w w') (hS : ∀ j, Q j → ¬ S j) : RefIn Q w' a cap ps := by
  obtain ⟨A, C, h1, h2, h3, h4⟩ := h
  exact ⟨A, C, h1.but hb (fun j hj => hS j (h3 j hj)), fun i hi => (h2 i hi).but hb (fun j hj => hS j (h4 i hi j hj)), h3, h4⟩
theorem RefIn.below {Q : Nat → Prop} {w w' : World} {a : Option Addr} {cap : Nat} {ps : List RP} (h : RefIn Q w a cap ps) (hb : Below w.heap.size w w') : RefIn Q w' a cap ps := h.but (S := fun _ => False) (But.of_below hb) (fun _ _ e => e)
theorem RefIn.mono {Q R : Nat → Prop} {w : World} {a : Option Addr} {cap : Nat} {ps : List RP} (h : RefIn Q w a cap ps) (hR : ∀ j, j < w.heap.size → Q j → R j) : RefIn R w a cap ps := by
  obtain ⟨A, C, h1, h2, h3, h4⟩ := h
  exact ⟨A, C, h1, h2, fun j hj => hR j (h1.lt j hj) (h3 j hj), fun i hi j hj => hR j ((h2 i hi).lt j hj) (h4 i hi j hj)⟩
theorem RefIn.nil {Q : Nat → Prop} (w : World) : RefIn Q w none 0 [] := ⟨fun _ => none, fun _ => 0, SlAt.nil _ _, fun i hi => (by simp at hi), fun j hj => (by obtain ⟨z, hz, _⟩ := hj; cases hz), fun i hi => (by simp at hi)⟩

/-- How a write ends. -/
def RWEndQ (Q : Nat → Prop) (a : Option Addr) (cap n : Nat) (ps : List RP) (i ver x : Int) (L : List KI) (w : World) (e : Ending) (w' : World) : Prop :=
  Below w.heap.size w w' ∧ ((rcan ps i ver = true ∧ ∃ a' cap', e = .returned (.tuple #[.agg #[.slice a' (n + 1) cap'], .bool true]) ∧ RefIn Q w' a' cap' (ps ++ [(i, x, L)])) ∨ (rcan ps i ver = false ∧ e = .returned (.tuple #[.agg #[.slice a n cap], .bool false])))

set_option maxRecDepth 20000 in
set_option maxHeartbeats 4000000 in
theorem rwrite5_in (Q : Nat → Prop) (a : Option Addr) (cap n : Nat) (ps : List RP) (i ver x : Int) (s : Option Addr) (l c : Nat) (L : List KI) (w : World) (h : RefIn Q w a cap ps) (hQs : ∀ j, inB s j → Q j) (hQf : ∀ j, w.heap.size ≤ j → Q j) (hn : ps.length = n) (hn2 : n ≤ 100000) (hS : SlAt 2 w s c l (flatR L)) (hl : L.length = l) :
    Calls Try.prog 54 #[.agg #[.slice a n cap], .int .i64 i, .int .i64 ver, .agg #[.int .i64 x, .slice s l c]] w (RWEndQ Q a cap n ps i ver x L w) := by
  obtain ⟨W1, hW1⟩ : ∃ W1, ((w.alloc (.cells #[.slice a n cap] 53)).alloc (.cells #[.int .i64 x, .slice s l c] 58)).alloc (.cells #[.slice none 0 0] 53) = W1 := ⟨_, rfl⟩
  have hb0 : Below w.heap.size w W1 := by rw [← hW1]; exact (((Below.refl _ _).alloc (Nat.le_refl _) _).alloc (by simp) _).alloc (by simp; omega) _
  have hsz : W1.heap.size = w.heap.size + 3 := by rw [← hW1]; simp
  have hB4 : BoxAt W1 w.heap.size [.slice a n cap] := by
    rw [← hW1]
    exact ((BoxAt.new w [.slice a n cap] 53).below ((Below.refl _ _).alloc (Nat.le_refl _) _)).below ((Below.refl _ _).alloc (Nat.le_refl _) _)
  have hB7 : BoxAt W1 (w.heap.size + 1) [.int .i64 x, .slice s l c] := by
    have q := BoxAt.new (w.alloc (.cells #[.slice a n cap] 53)) [.int .i64 x, .slice s l c] 58
    rw [World.size_alloc] at q
    rw [← hW1]; exact q.below ((Below.refl _ _).alloc (Nat.le_refl _) _)
  have hB8 : BoxAt W1 (w.heap.size + 1 + 1) [.slice none 0 0] := by
    have q := BoxAt.new ((w.alloc (.cells #[.slice a n cap] 53)).alloc (.cells #[.int .i64 x, .slice s l c] 58)) [.slice none 0 0] 53
    rw [World.size_alloc, World.size_alloc] at q
    rw [← hW1]; exact q
  have hRd := hidq (rread5_any a cap n ps i W1 (h.at.below hb0) hn (by omega))
  have HH := hidq (And.intro h (And.intro hn (And.intro hS hl)))
  have r4 := (hB4.get 0 _ rfl).1
  have HB := hidq (And.intro hB4 (And.intro hB7 hB8))
  have HB0 := hidq hb0
  have hrc : rcan ps i ver = (decide (0 ≤ i ∧ i < 1000) && (((rread ps i n).1 : Int) == ver)) := by unfold rcan; rw [hn]
  have HRC := hidq hrc
  obtain ⟨rc, hrcd⟩ : ∃ rc, rcan ps i ver = rc := ⟨_, rfl⟩
  rw [hrcd] at HRC
  have RCF := hidq (fun (h : rc = false) => hrcd.trans h)
  have RCT0 := hidq hrcd
  clear hrcd
  generalize rread ps i n = rd at *
  clear h hS hl hB4 hB7 hB8 hb0 hrc hn
  go_enter Try.func54, Try.ntmps54
  go_wp2_with fail
  refine hRd.out.mono ?_
  rintro e w2 ⟨s2, c2, rfl, _, hb2⟩
  obtain ⟨rv, rp⟩ := rd
  dsimp only at *
  obtain ⟨b4, hb4⟩ : ∃ b4, w.heap.size = b4 := ⟨_, rfl⟩
  rw [hb4]
  obtain ⟨W3, hW3⟩ : ∃ W3, w2.alloc (.cells #[.int .i64 rp.x, .slice s2 rp.L.length c2] 58) = W3 := ⟨_, rfl⟩
  have hb23 : Below w2.heap.size w2 W3 := by rw [← hW3]; exact (Below.refl _ _).alloc (Nat.le_refl _) _
  have hb13 : Below W1.heap.size W1 W3 := hb2.trans (hb23.mono hb2.size)
  have hb03 : Below w.heap.size w W3 := HB0.out.trans (hb13.mono HB0.out.size)
  obtain ⟨hB4, hB7, hB8⟩ := HB.out
  have hB43 := hB4.below hb13
  have hB73 := hB7.below hb13
  have hB83 := hB8.below hb13
  rw [hb4] at hB43 hB73 hB83
  have HB3 := hidq (And.intro hB43 (And.intro hB73 hB83))
  have HL := hidq hb03
  have q4 := (hB43.get 0 _ rfl).1
  obtain ⟨q8, z8⟩ := hB83.get 0 _ rfl
  have hW3s : b4 + 3 ≤ W3.heap.size := by have := hb13.size; omega
  clear hb2 hb23 hb13 hb03 hB4 hB7 hB8 hB43 hB73 hB83 hRd r4 HB HB0 hW1
  have t8 : (W3.setCell ⟨b4 + 1 + 1, 0, none⟩ (.slice a n cap)).cell? ⟨b4 + 1 + 1, 0, none⟩ = some (.slice a n cap) := World.cell?_setCell_same' _ _ _ (by rw [q8]; rfl)
  have T8 := hidq t8
  clear t8
  have FAIL := hidq (fun (hf : rc = false) => (show ∃ v, v = (.tuple #[.agg #[.slice a n cap], .bool false] : Value) ∧ RWEndQ Q a cap n ps i ver x L w (.returned v) (W3.setCell ⟨b4 + 1 + 1, 0, none⟩ (.slice a n cap)) from
    ⟨_, rfl, HL.out.setCell (by show w.heap.size ≤ b4 + 1 + 1; omega) _, .inr ⟨RCF.out hf, rfl⟩⟩))
  by_cases hneg : i < 0
  · have hf : rc = false := by rw [HRC.out]; simp; intro h; omega
    obtain ⟨v, rfl, hE⟩ := FAIL.out hf
    have HE := hidq hE
    clear FAIL hE HRC hf
    go_wp2
    refine bodyPost_ret (v := .tuple #[.agg #[.slice a n cap], .bool false]) ?_ rfl HE.out
    have t8 := T8.out; simp [results, Try.results54, go_sem, t8]
  · have hd0 : decide (i < 0) = false := decide_eq_false hneg
    by_cases hbig : 1000 ≤ i
    · have hf : rc = false := by rw [HRC.out]; simp; intro h; omega
      obtain ⟨v, rfl, hE⟩ := FAIL.out hf
      have HE := hidq hE
      clear FAIL hE HRC hf
      go_wp2
      refine bodyPost_ret (v := .tuple #[.agg #[.slice a n cap], .bool false]) ?_ rfl HE.out
      have t8 := T8.out; simp [results, Try.results54, go_sem, t8]
    · have hd1 : decide (1000 ≤ i) = false := decide_eq_false hbig
      by_cases hv : (rv : Int) = ver
      · have ht : rc = true := by rw [HRC.out]; simp [hv]; omega
        have hv2 : ((rv : Int) == ver) = true := by simpa using hv
        have RCT := hidq (RCT0.out.trans ht)
        clear ht RCF
        clear FAIL HRC
        go_wp2_with fail
        obtain ⟨lo, hlo⟩ : ∃ lo, W3.heap.size = lo := ⟨_, rfl⟩
        obtain ⟨b7, hb7⟩ : ∃ b7, b4 + 1 = b7 := ⟨_, rfl⟩
        obtain ⟨HR, hn, hS, hl⟩ := HH.out
        obtain ⟨A, C, hRs, hRi, hQa, hQi⟩ := HR
        have HQ := hidq (And.intro hQi (And.intro hQs hQf))
        clear hQa hQi hQs hQf
        obtain ⟨FP, hFP⟩ : ∃ FP, flatP ps A C = FP := ⟨_, rfl⟩
        have FSg := hidq (fun W (hW : Below W3.heap.size W3 W) => (show Src Try.prog 3 51 (.slice a n cap) n FP W from by
          have hW0 := HL.out.trans (hW.mono HL.out.size)
          have q := (hRs.below hW0).src (P := Try.prog) Try.underlying51
          rw [hFP, hn] at q; exact q))
        have FC := hidq (fun W (hW : Below W3.heap.size W3 W) => (show W.cell? ⟨b4, 0, none⟩ = some (.slice a n cap) ∧ W.cell? ⟨b7, 0, none⟩ = some (.int .i64 x) ∧ W.cell? ⟨b7, 1, none⟩ = some (.slice s l c) from by
          obtain ⟨h1, h2, h3⟩ := HB3.out
          have e1 := (h1.below hW).get 0 _ rfl
          have e2 := (h2.below hW).get 0 _ rfl
          have e3 := (h2.below hW).get 1 _ rfl
          rw [hb7] at e2 e3
          exact ⟨e1.1, e2.1, e3.1⟩))
        have HX := hidq (And.intro hRs (And.intro hRi (And.intro hFP (And.intro hS (And.intro hl hn)))))
        have hb8e : b4 + 1 + 1 = b7 + 1 := by omega
        clear hRs hRi hFP hS hl hn q4 q8 z8
        rw [hb7]
        have hrefl : ∀ w : World, Reg.Keeps w w := Reg.Keeps.refl
        refine Reg.wp_region_props_tail 8 (Reg.ofList (rwr5R b4 lo n cap l c a s i x FP)) Reg.Keeps (fun _ w => Reg.Keeps W3 w) (by kernel_rfl) (by kernel_rfl) (by kernel_rfl) (Reg.AllKept.at _ (rwr5R_kept b4 lo n cap l c a s i x FP)) hrefl (Reg.Keeps.drewN (Reg.Keeps.refl _) 1) ⟨?_, ?_, ?_, ?_, ?_, ?_, ?_, ?_, trivial⟩ ?_
        · refine Reg.StepAt.plain (i := 0) rfl ?_
          intro L ev w hI hk hp hA
          have hcc := hA.const
          clear hA hp
          refine Reg.out_new (v := .slice (some ⟨w.heap.size, 0, none⟩) 0 0) (w' := w.alloc (.cells #[] 130)) ?_ ⟨⟨w.heap.size, rfl, Flat.new w [] 130 3 0 rfl (Nat.zero_le _) (fun _ h => (by cases h)), by have h1 : W3.heap.size ≤ w.heap.size := hI.size; omega⟩, (Reg.Keeps.refl _).alloc _, Reg.Keeps.alloc hI _⟩
          go_simp
        · refine Reg.StepAt.plain (i := 1) rfl ?_
          intro L ev w hI hk hp hA
          have e4 : ev (.tmp 4) = .pointer (some ⟨b4, 0, none⟩) := hA.oldNone 4 (by kernel_rfl)
          have hcc := hA.const
          clear hA hp
          refine Reg.out_value (v := .pointer (some ⟨b4, 0, none⟩)) ?_ ⟨rfl, hrefl _, hI⟩
          go_simp
        · refine Reg.StepAt.plain (i := 2) rfl ?_
          intro L ev w hI hk hp hA
          have e31 : ev (.tmp 31) = .pointer (some ⟨b4, 0, none⟩) := hA.val 1 _ 31 rfl (hp ⟨1, .data⟩ (by simp) rfl) rfl
          have hcc := hA.const
          clear hA hp
          obtain ⟨f0, f1, f2⟩ := FC.out w hI
          refine Reg.out_value (v := .slice a n cap) ?_ ⟨rfl, hrefl _, hI⟩
          go_simp
        · refine Reg.StepAt.plain (i := 3) rfl ?_
          intro L ev w hI hk hp hA
          have e30 : (fun v w => ∃ g, v = .slice (some ⟨g, 0, none⟩) 0 0 ∧ Flat 3 w g 0 0 [] ∧ lo ≤ g) (ev (.tmp 30)) w := hA.val 0 _ 30 rfl (hp ⟨0, .data⟩ (by simp) rfl) rfl
          have e32 : ev (.tmp 32) = .slice a n cap := hA.val 2 _ 32 rfl (hp ⟨2, .data⟩ (by simp) rfl) rfl
          have hcc := hA.const
          clear hA hp
          obtain ⟨g, e30, hf, hlg⟩ := e30
          obtain ⟨g', q', w', hrun, hF', hb', hg'⟩ := fresh_append plainP 51 w g hf _ n FP (FSg.out w hI) (by omega)
          refine Reg.out_new (v := .slice (some ⟨g', 0, none⟩) n q') (w' := w') ?_ ⟨⟨g', q', rfl, hF', by have h1 : W3.heap.size ≤ w.heap.size := hI.size; omega⟩, hb', Reg.Keeps.trans hI hb'⟩
          simp [execOp, resolve, invoke, builtin, e30, e32, hrun, Result.andThen]
        · refine Reg.StepAt.plain (i := 4) rfl ?_
          intro L ev w hI hk hp hA
          have e1 : ev (.tmp 1) = .int .i64 i := hA.oldNone 1 (by kernel_rfl)
          have hcc := hA.const
          clear hA hp
          refine Reg.out_value (v := .int .i64 i) ?_ ⟨rfl, hrefl _, hI⟩
          go_simp
        · refine Reg.StepAt.plain (i := 5) rfl ?_
          intro L ev w hI hk hp hA
          have e7 : ev (.tmp 7) = .pointer (some ⟨b7, 0, none⟩) := hA.oldNone 7 (by kernel_rfl)
          have hcc := hA.const
          clear hA hp
          obtain ⟨f0, f1, f2⟩ := FC.out w hI
          refine Reg.out_value (v := .agg #[.int .i64 x, .slice s l c]) ?_ ⟨rfl, hrefl _, hI⟩
          go_simp
        · refine Reg.StepAt.plain (i := 6) rfl ?_
          intro L ev w hI hk hp hA
          have e34 : ev (.tmp 34) = .int .i64 i := hA.val 4 _ 34 rfl (hp ⟨4, .data⟩ (by simp) rfl) rfl
          have e35 : ev (.tmp 35) = .agg #[.int .i64 x, .slice s l c] := hA.val 5 _ 35 rfl (hp ⟨5, .data⟩ (by simp) rfl) rfl
          have hcc := hA.const
          clear hA hp
          refine Reg.out_value (v := .agg #[.int .i64 i, .int .i64 x, .slice s l c]) ?_ ⟨rfl, hrefl _, hI⟩
          go_simp
        · refine Reg.StepAt.plain (i := 7) rfl ?_
          intro L ev w hI hk hp hA
          have e36 : ev (.tmp 36) = .agg #[.int .i64 i, .int .i64 x, .slice s l c] := hA.val 6 _ 36 rfl (hp ⟨6, .data⟩ (by simp) rfl) rfl
          have hcc := hA.const
          clear hA hp
          refine Reg.out_new (v := .slice (some ⟨w.heap.size, 0, none⟩) 1 1) (w' := w.alloc (.cells #[.int .i64 i, .int .i64 x, .slice s l c] 130)) ?_ ⟨⟨w.heap.size, rfl, BoxAt.new w [.int .i64 i, .int .i64 x, .slice s l c] 130, by have h1 : W3.heap.size ≤ w.heap.size := hI.size; omega⟩, (Reg.Keeps.refl _).alloc _, Reg.Keeps.alloc hI _⟩
          go_simp
        intro act wz hI hF
        have g30 : (fun v w => ∃ g, v = .slice (some ⟨g, 0, none⟩) 0 0 ∧ Flat 3 w g 0 0 [] ∧ lo ≤ g) (act.eval (.tmp 30)) wz := hF.val 0 _ 30 rfl (by kernel_rfl) rfl
        have g31 : act.eval (.tmp 31) = .pointer (some ⟨b4, 0, none⟩) := hF.val 1 _ 31 rfl (by kernel_rfl) rfl
        have g32 : act.eval (.tmp 32) = .slice a n cap := hF.val 2 _ 32 rfl (by kernel_rfl) rfl
        have g33 : (fun v w => ∃ g q, v = .slice (some ⟨g, 0, none⟩) n q ∧ Flat 3 w g q n FP ∧ lo ≤ g) (act.eval (.tmp 33)) wz := hF.val 3 _ 33 rfl (by kernel_rfl) rfl
        have g34 : act.eval (.tmp 34) = .int .i64 i := hF.val 4 _ 34 rfl (by kernel_rfl) rfl
        have g35 : act.eval (.tmp 35) = .agg #[.int .i64 x, .slice s l c] := hF.val 5 _ 35 rfl (by kernel_rfl) rfl
        have g36 : act.eval (.tmp 36) = .agg #[.int .i64 i, .int .i64 x, .slice s l c] := hF.val 6 _ 36 rfl (by kernel_rfl) rfl
        have g37 : (fun v w => ∃ g, v = .slice (some ⟨g, 0, none⟩) 1 1 ∧ BoxAt w g [.int .i64 i, .int .i64 x, .slice s l c] ∧ lo ≤ g) (act.eval (.tmp 37)) wz := hF.val 7 _ 37 rfl (by kernel_rfl) rfl
        have hact := hF.actHead [30, 31, 32, 33, 34, 35, 36, 37] (by kernel_rfl)
        clear hF
        simp only [List.foldl_cons, List.foldl_nil] at hact
        rw [g31, g32, g34, g35, g36] at hact
        clear g31 g32 g34 g35 g36
        generalize act.eval (.tmp 30) = u30 at hact g30
        generalize act.eval (.tmp 33) = u33 at hact g33
        generalize act.eval (.tmp 37) = u37 at hact g37
        simp only [List.setIfInBounds_toArray, List.set_cons_succ, List.set_cons_zero] at hact
        subst hact
        simp only [List.drop_succ_cons, List.drop_zero]
        obtain ⟨g1, c1, rfl, hF1, hg1⟩ := g33
        obtain ⟨g2, rfl, hG2, hg2⟩ := g37
        have hIz : Below W3.heap.size W3 wz := hI
        have hSr : Src Try.prog 3 51 (.slice (some ⟨g2, 0, none⟩) 1 1) 1 [.int .i64 i, .int .i64 x, .slice s l c] wz := src_new 3 wz Try.underlying51 g2 _ rfl (fun j u hu => hG2.cell j u hu) (by intro u hu; simp at hu; rcases hu with rfl | rfl | rfl <;> rfl)
        have HAP := hidq (And.intro hF1 hSr)
        obtain ⟨hRs, hRi, hFP, hS, hl, hn⟩ := HX.out
        have hB8z := HB3.out.2.2.below hIz
        rw [hb8e] at hB8z
        obtain ⟨q8, z8⟩ := hB8z.get 0 _ rfl
        have hlz := hIz.size
        have FIN := hidq (fun g3 c3 w5 (hF : Flat 3 w5 g3 c3 (n + 1) (FP ++ [.int .i64 i, .int .i64 x, .slice s l c])) (hB : But (fun j => j = g1) wz w5) (hg : g3 = g1 ∨ wz.heap.size ≤ g3) => (show BoxAt w5 (b7 + 1) [.slice none 0 0] ∧ RWEndQ Q a cap n ps i ver x L w (.returned (.tuple #[.agg #[.slice (some ⟨g3, 0, none⟩) (n + 1) c3], .bool true])) (w5.setCell ⟨b7 + 1, 0, none⟩ (.slice (some ⟨g3, 0, none⟩) (n + 1) c3)) from by
          have hw5 : Below w.heap.size w w5 := (HL.out.trans (hIz.mono HL.out.size)).trans (hB.below (by have := HL.out.size; omega) (fun k e => by have := HL.out.size; omega))
          have hset : But (fun j => j = b7 + 1) w5 (w5.setCell ⟨b7 + 1, 0, none⟩ (.slice (some ⟨g3, 0, none⟩) (n + 1) c3)) := (But.refl (fun j => j = b7 + 1) w5).set1 _ _ rfl _
          have hlt : ∀ k, k < w.heap.size → ¬ (k = b7 + 1) := fun k hk e => by omega
          refine ⟨hB8z.but hB (by omega), hw5.setCell (by show w.heap.size ≤ b7 + 1; omega) _, .inl ⟨RCT.out, some ⟨g3, 0, none⟩, c3, rfl, fun j => if j = ps.length then s else A j, fun j => if j = ps.length then c else C j, ?_, ?_, ?_, ?_⟩⟩
          · rw [flatP_snoc, hFP]
            refine .inr ⟨g3, rfl, ?_⟩
            have e1 : (ps ++ [((i, x, L) : RP)]).length = n + 1 := by simp [hn]
            rw [e1]
            have e2 : (RP.L (i, x, L)).length = l := hl
            rw [e2]
            exact hF.but hset (by rcases hg with e | e <;> omega)
          · intro j hj
            have hj' : j < ps.length + 1 := by simpa using hj
            by_cases e : j = ps.length
            · dsimp only
              rw [if_pos e, if_pos e, e]
              have hp : (ps ++ [((i, x, L) : RP)])[ps.length]! = (i, x, L) := by rw [getElem!_pos (ps ++ [((i, x, L) : RP)]) ps.length (by simp)]; simp
              rw [hp]
              show SlAt 2 _ s c L.length (flatR L)
              rw [hl]
              exact (hS.below hw5).but hset (fun q hq => hlt q (hS.lt q hq))
            · dsimp only
              rw [if_neg e, if_neg e]
              have hq : j < ps.length := by omega
              have hp : (ps ++ [((i, x, L) : RP)])[j]! = ps[j]! := by rw [getElem!_pos (ps ++ [((i, x, L) : RP)]) j (by simp; omega), getElem!_pos ps j hq, List.getElem_append_left hq]
              rw [hp]
              exact ((hRi j hq).below hw5).but hset (fun q hq' => hlt q ((hRi j hq).lt q hq'))
          · rintro j ⟨z, hz, rfl⟩
            cases hz
            exact HQ.out.2.2 g3 (by have := HL.out.size; rcases hg with e | e <;> omega)
          · intro j hj k hk
            have hj' : j < ps.length + 1 := by simpa using hj
            by_cases e : j = ps.length
            · dsimp only at hk
              rw [if_pos e] at hk
              exact HQ.out.2.1 k hk
            · dsimp only at hk
              rw [if_neg e] at hk
              exact HQ.out.1 j (by omega) k hk))
        clear hF1 hG2 hIz hSr hRs hRi hFP hS hl hn hB8z HX HB3 FSg FC HL hI HH
        go_wp2_with (at_builtin; refine wpList_flat plainP _ rfl (.tmp 33) (.tmp 37) rfl g1 c1 n FP rfl HAP.out.1 _ rfl 1 _ HAP.out.2 (by omega) ?_; intro g3 c3 w5 hF5 hB5 hg5; obtain ⟨hQ, hE⟩ := FIN.out g3 c3 w5 hF5 hB5 hg5; have HE := hidq hE; obtain ⟨p8, y8⟩ := hQ.get 0 _ rfl; clear q8 z8 hE)
        have T9 := hidq (show (w5.setCell ⟨b7 + 1, 0, none⟩ (.slice (some ⟨g3, 0, none⟩) (n + 1) c3)).cell? ⟨b7 + 1, 0, none⟩ = some (.slice (some ⟨g3, 0, none⟩) (n + 1) c3) from World.cell?_setCell_same' _ _ _ (by rw [p8]; rfl))
        clear hF5 hB5 hg5 FIN HAP hQ
        refine bodyPost_ret (v := .tuple #[.agg #[.slice (some ⟨g3, 0, none⟩) (n + 1) c3], .bool true]) ?_ rfl HE.out
        have t9 := T9.out; simp [results, Try.results54, go_sem, t9]
      · have hf : rc = false := by rw [HRC.out]; simp [hv]
        have hv2 : ((rv : Int) == ver) = false := by simpa using hv
        obtain ⟨v, rfl, hE⟩ := FAIL.out hf
        have HE := hidq hE
        clear FAIL hE HRC hf
        go_wp2
        refine bodyPost_ret (v := .tuple #[.agg #[.slice a n cap], .bool false]) ?_ rfl HE.out
        have t8 := T8.out; simp [results, Try.results54, go_sem, t8]
end Go.Proofs.Ytepigofpcjmddaa

namespace Go.Proofs.Ytepigofpcjmddaa
open Go.RowKit Go.Sort

def Mem.lay (M : Mem) (i : Nat) (c : CV) : Mem := { M with cell := fun j => if j = i then c else M.cell j }
theorem mem_set {w w1 : World} {b i : Nat} {O : Nat → Prop} {M : Mem} (h : MemAt w b O M) (hi : i < M.len) (g cap : Nat) (A : Nat → Option Addr) (C : Nat → Nat) (hr : RowC w b O M (some ⟨g, 0, none⟩) cap A C)
    (v x : Int) (L : List It) (a' : Option Addr) (cap' : Nat) (hb : But (fun _ => False) w w1) (hS : SlAt 2 w1 a' cap' L.length (flatI L)) (hF : ∀ j, inB a' j → w.heap.size ≤ j) (hL : L.length ≤ 1000000) (w2 : World)
    (hw2 : w2 = ((w1.setCell ⟨g, i * 3, none⟩ (.int .u64 v)).setCell ⟨g, i * 3 + 1, none⟩ (.int .i64 x)).setCell ⟨g, i * 3 + 2, none⟩ (.slice a' L.length cap')) :
    MemAt w2 b (own' O w w2) (M.lay i ⟨v, x, L⟩) ∧ But (fun k => k = g) w w2 := by
  have hbl := h.lt b h.ob
  have hgo := hr.own g ⟨_, rfl, rfl⟩
  have hgl := h.lt g hgo.1
  have hbut : But (fun k => k = g) w1 w2 := by
    rw [hw2]
    exact (((But.refl (fun k => k = g) w1).set1 _ _ rfl _).set1 _ _ rfl _).set1 _ _ rfl _
  have hsz : w2.heap.size = w1.heap.size := by rw [hw2]; simp [World.size_setCell]
  have hneb : ∀ (p q : Nat), (⟨g, p, none⟩ : Addr) ≠ ⟨b, q, none⟩ := fun p q e => by injection e with e1; exact hgo.2 e1
  have hB : But (fun k => k = g) w w2 := (hb.mono (fun _ _ e => e.elim)).trans hbut
  refine ⟨⟨.inl h.ob, ?_, ⟨some ⟨g, 0, none⟩, cap, fun j => if j = i then a' else A j, fun j => if j = i then cap' else C j, ?_⟩, ?_, ?_, ?_, h.max, ?_, ?_⟩, hB⟩
  · intro k hk
    rcases hk with hk | hk
    · exact Nat.lt_of_lt_of_le (h.lt k hk) hB.size
    · exact hk.2
  · refine ⟨?_, .inr ⟨g, rfl, ?_⟩, ?_, ?_, ?_⟩
    · rw [hw2, World.cell?_setCell_other _ _ _ _ (hneb _ _), World.cell?_setCell_other _ _ _ _ (hneb _ _), World.cell?_setCell_other _ _ _ _ (hneb _ _), hb.cell (p := ⟨b, 0, none⟩) hbl id]
      exact hr.hd
    · rcases hr.sl with ⟨e, _⟩ | ⟨g', e, hf⟩
      · cases e
      · cases e
        have hf1 := hf.but hb id
        have hlen := flatC_length M A C
        have hf2 := ((hf1.set (t := i * 3) (v := .int .u64 v) (by rw [hlen]; omega) rfl).set (t := i * 3 + 1) (v := .int .i64 x) (by rw [List.length_set, hlen]; omega) rfl).set (t := i * 3 + 2) (v := .slice a' L.length cap') (by rw [List.length_set, List.length_set, hlen]; omega) rfl
        rw [flatC_set M A C i v x L a' cap' (M.lay i ⟨v, x, L⟩) rfl (fun j => rfl), ← hw2] at hf2
        exact hf2
    · rintro j ⟨y, hy, rfl⟩; cases hy; exact ⟨.inl hgo.1, hgo.2⟩
    · intro j hj
      show SlAt 2 w2 (if j = i then a' else A j) (if j = i then cap' else C j) (if j = i then (⟨v, x, L⟩ : CV) else M.cell j).L.length (flatI (if j = i then (⟨v, x, L⟩ : CV) else M.cell j).L)
      by_cases e : j = i
      · rw [if_pos e, if_pos e, if_pos e]
        exact hS.but hbut (fun k hk e => by have := hF k hk; omega)
      · rw [if_neg e, if_neg e, if_neg e]
        refine ((hr.its j hj).but hb (fun _ _ e => e)).but hbut (fun k hk e => ?_)
        exact (hr.ito j hj k hk).2.2 ⟨_, rfl, e.symm⟩
    · intro j hj k hk
      have hk' : inB (if j = i then a' else A j) k := hk
      by_cases e : j = i
      · rw [if_pos e] at hk'
        have h1 := hF k hk'
        have h2 := hS.lt k hk'
        refine ⟨.inr ⟨h1, by omega⟩, by omega, ?_⟩
        rintro ⟨y, hy, hyk⟩; cases hy
        have : g = k := hyk
        omega
      · rw [if_neg e] at hk'
        have h1 := hr.ito j hj k hk'
        exact ⟨.inl h1.1, h1.2.1, h1.2.2⟩
  · show w2.cell? ⟨b, 1, none⟩ = some (.int .u64 (M.clock : Int))
    rw [hw2, World.cell?_setCell_other _ _ _ _ (hneb _ _), World.cell?_setCell_other _ _ _ _ (hneb _ _), World.cell?_setCell_other _ _ _ _ (hneb _ _), hb.cell (p := ⟨b, 1, none⟩) hbl id]
    exact h.clk
  · rw [hw2, World.frozen?_setCell, World.frozen?_setCell, World.frozen?_setCell, hb.frozen (p := ⟨b, 0, none⟩) hbl id]; exact h.fz0
  · rw [hw2, World.frozen?_setCell, World.frozen?_setCell, World.frozen?_setCell, hb.frozen (p := ⟨b, 1, none⟩) hbl id]; exact h.fz1
  · intro j hj
    show (if j = i then _ else M.cell j) = _
    rw [if_neg (by have : M.len ≤ j := hj; omega)]; exact h.rest j hj
  · intro j
    show (if j = i then (⟨v, x, L⟩ : CV) else M.cell j).L.length ≤ _
    by_cases e : j = i
    · rw [if_pos e]; exact hL
    · rw [if_neg e]; exact h.few j
end Go.Proofs.Ytepigofpcjmddaa

namespace Go.Proofs.Ytepigofpcjmddaa
open Go.RowKit Go.Sort

/-- The first cells of a memory, the others never written. -/
def Mem.upto (M : Mem) (k : Nat) : Mem := { M with cell := fun j => if j < k then M.cell j else CV.zero }
theorem upto_all (M : Mem) (h : ∀ i, M.len ≤ i → M.cell i = CV.zero) : M.upto M.len = M := by
  obtain ⟨len, cell, clock⟩ := M
  unfold Mem.upto
  simp only [Mem.mk.injEq, and_true, true_and]
  funext j
  by_cases e : j < len
  · rw [if_pos e]
  · rw [if_neg e]; exact (h j (by simpa using e)).symm
theorem upto_lay (M : Mem) (k : Nat) : (M.upto k).lay k (M.cell k) = M.upto (k + 1) := by
  unfold Mem.upto Mem.lay
  simp only [Mem.mk.injEq, and_true, true_and]
  funext j
  by_cases e : j = k
  · subst e; rw [if_pos rfl, if_pos (by omega)]
  · rw [if_neg e]
    by_cases e2 : j < k
    · rw [if_pos e2, if_pos (by omega)]
    · rw [if_neg e2, if_neg (by omega)]

theorem madeC (n : Nat) (hn : n ≤ 1000) : ∃ Z : Array Value, (∀ W : World, (Instr.makeSlice 131 (.int .i64 (n : Int)) (.int .i64 (n : Int))).run Try.prog W = .ok (.slice (some ⟨W.heap.size, 0, none⟩) n n) (W.alloc (.cells Z 64))) ∧ Z.size = n * 3 ∧
    ∀ t, t < n * 3 → Z[t]? = some (if t % 3 = 0 then .int .u64 0 else if t % 3 = 1 then .int .i64 0 else .slice none 0 0) := by
  have h : (Try.prog.info? 64).map (fun i => (i.zero, i.size, i.bytes)) = some (some (.agg #[.int .u64 0, .int .i64 0, .slice none 0 0]), 3, 40) := by kernel_rfl
  obtain ⟨i, hi, he⟩ := Option.map_eq_some_iff.1 h
  simp only [Prod.mk.injEq] at he
  have hr := fun W => run_make (P := Try.prog) W 131 64 i _ Try.underlying131 hi he.1 .i64 .i64 (n : Int) (n : Int) (by omega) (Int.le_refl _) (by rw [he.2.2]; omega) (by omega)
  refine ⟨madeCells (Value.agg #[.int .u64 0, .int .i64 0, .slice none 0 0]).cells (n * 3), fun W => ?_, ?_, ?_⟩
  · have := hr W
    rw [Int.toNat_natCast, he.2.1] at this
    exact this
  · rw [size_madeCells]
  · intro t ht
    rw [Array.getElem?_eq_getElem (by rw [size_madeCells]; exact ht)]
    have ez : (Value.agg #[.int .u64 0, .int .i64 0, .slice none 0 0]).cells = #[.int .u64 0, .int .i64 0, .slice none 0 0] := rfl
    simp only [madeCells, Array.getElem_map, Array.getElem_range, ez]
    show some ((#[Value.int .u64 0, Value.int .i64 0, Value.slice none 0 0] : Array Value)[t % 3]!) = _
    have : t % 3 = 0 ∨ t % 3 = 1 ∨ t % 3 = 2 := by omega
    rcases this with e | e | e <;> rw [e] <;> rfl

set_option maxHeartbeats 4000000 in
theorem mclone_any (b : Nat) (O : Nat → Prop) (M : Mem) (w : World) (h : MemAt w b O M) :
    Calls Try.prog 57 #[.pointer (some ⟨b, 0, none⟩)] w fun e w' => ∃ b' O', e = .returned (.pointer (some ⟨b', 0, none⟩)) ∧ w.heap.size ≤ b' ∧ (∀ k, O' k → w.heap.size ≤ k) ∧ MemAt w' b' O' M ∧ Below w.heap.size w w' := by
  obtain ⟨a, cap, A, C, hr⟩ := h.row
  have hd := hr.hd
  have hck := h.clk
  have hbl := h.lt b h.ob
  have hmx := h.max
  have hle := hr.sl.le
  have HUA := hidq (upto_all M h.rest)
  have HH := hidq h
  have HR := hidq hr
  clear hr h
  obtain ⟨n, hn⟩ : ∃ n, M.len = n := ⟨_, rfl⟩
  rw [hn] at hd hmx hle
  obtain ⟨Z, hmk, hZs, hZ⟩ := madeC n hmx
  have HZ := hidq (And.intro hZs hZ)
  have HN := hidq hn
  clear hZs hZ hn
  have hn1 : (n : Int) ≤ 1000 := by omega
  go_enter Try.func57, Try.ntmps57
  go_wp2
  go_region
  go_wp2_with fail
  obtain ⟨W1, hW1⟩ : ∃ W1, ((w.alloc (.cells Z 64)).alloc (.cells #[.slice (some ⟨w.heap.size, 0, none⟩) n n, .int .u64 (M.clock : Int)] 133)).drew = W1 := ⟨_, rfl⟩
  have hb1 : Below w.heap.size w W1 := by rw [← hW1]; exact (((Below.refl _ _).alloc (Nat.le_refl _) _).alloc (by simp) _).drew
  have hz1 : W1.heap.size = w.heap.size + 2 := by rw [← hW1]; simp
  have hM1 : MemAt W1 (w.heap.size + 1) (fun k => k = w.heap.size ∨ k = w.heap.size + 1) (M.upto 0) := by
    have s1 : (w.alloc (.cells Z 64)).heap.size = w.heap.size + 1 := World.size_alloc _ _
    have bz : But (fun _ => False) (w.alloc (.cells Z 64)) W1 := by rw [← hW1]; exact ((But.refl _ _).alloc _).drew
    have hb0 : W1.cell? ⟨w.heap.size + 1, 0, none⟩ = some (.slice (some ⟨w.heap.size, 0, none⟩) n n) ∧ W1.cell? ⟨w.heap.size + 1, 1, none⟩ = some (.int .u64 (M.clock : Int)) ∧ W1.frozen? ⟨w.heap.size + 1, 0, none⟩ = false ∧ W1.frozen? ⟨w.heap.size + 1, 1, none⟩ = false := by
      rw [← hW1, ← s1]
      exact ⟨(World.cell?_alloc_new _ _ _ 0).trans rfl, (World.cell?_alloc_new _ _ _ 1).trans rfl, World.frozen?_alloc_new _ _ _ _, World.frozen?_alloc_new _ _ _ _⟩
    have hZc : ∀ t, W1.cell? ⟨w.heap.size, t, none⟩ = Z[t]? := fun t => by rw [bz.cell (p := ⟨w.heap.size, t, none⟩) (by rw [s1]; exact Nat.lt_succ_self _) id]; exact World.cell?_alloc_new _ _ _ t
    have hZf : ∀ t, W1.frozen? ⟨w.heap.size, t, none⟩ = false := fun t => by rw [bz.frozen (p := ⟨w.heap.size, t, none⟩) (by rw [s1]; exact Nat.lt_succ_self _) id]; exact World.frozen?_alloc_new _ _ _ _
    have hlen : (M.upto 0).len = n := HN.out
    refine ⟨.inr rfl, fun k hk => by rcases hk with e | e <;> omega, ⟨some ⟨w.heap.size, 0, none⟩, n, fun _ => none, fun _ => 0, ?_⟩, hb0.2.1, hb0.2.2.1, hb0.2.2.2, by rw [hlen]; exact hmx, fun i _ => ?_, fun i => ?_⟩
    · refine ⟨by rw [hlen]; exact hb0.1, .inr ⟨w.heap.size, rfl, ?_⟩, ?_, ?_, ?_⟩
      · rw [hlen]
        refine ⟨by omega, by rw [flatC_length, hlen], Nat.le_refl _, by unfold maxLen; omega, ?_, ?_, ?_⟩
        · intro t u hu
          have ht : t < n * 3 := by have := (List.getElem?_eq_some_iff.1 hu).1; rw [flatC_length, hlen] at this; exact this
          rw [flatC_get _ _ _ t (by rw [hlen]; exact ht)] at hu
          injection hu with hu
          rw [hZc, HZ.out.2 t ht, ← hu]
          unfold cellC Mem.upto
          simp only [Nat.not_lt_zero, if_false]
          rfl
        · intro u hu
          obtain ⟨t, ht, rfl⟩ := List.getElem_of_mem hu
          simp only [flatC, List.getElem_map, List.getElem_range]
          unfold cellC
          split
          · rfl
          · split <;> rfl
        · intro j hj
          exact ⟨by rw [hZc, HZ.out.2 j hj]; rfl, hZf j⟩
      · rintro j ⟨y, hy, rfl⟩; cases hy; exact ⟨.inl rfl, by show w.heap.size ≠ _; omega⟩
      · intro i _
        show SlAt 2 W1 none 0 (if i < 0 then M.cell i else CV.zero).L.length (flatI (if i < 0 then M.cell i else CV.zero).L)
        rw [if_neg (Nat.not_lt_zero _)]
        exact SlAt.nil _ _
      · intro i _ j hj; obtain ⟨y, hy, _⟩ := hj; cases hy
    · show (if i < 0 then M.cell i else CV.zero) = CV.zero
      rw [if_neg (Nat.not_lt_zero _)]
    · show (if i < 0 then M.cell i else CV.zero).L.length ≤ _
      rw [if_neg (Nat.not_lt_zero _)]; exact Nat.zero_le _
  try rw [hW1]
  clear hW1 hmk HZ
  obtain ⟨b', hb'⟩ : ∃ b', w.heap.size + 1 = b' := ⟨_, rfl⟩
  rw [hb'] at hM1
  try rw [hb']
  have HB' := hidq (And.intro hb' hz1)
  clear hb' hz1
  go_loopw [23] (fun s wr => ∃ (k : Nat), s = .int .i64 (k : Int) ∧ k ≤ n ∧ Below w.heap.size w wr ∧ MemAt wr b' (own' (fun k => k = w.heap.size ∨ k = b') W1 wr) (M.upto k)) (fun s _ => n - (intOf s).toNat)
  case atStart => exact ⟨0, rfl, Nat.zero_le _, hb1, hM1.own (fun k e => .inl e) (own'_lt (fun k e => hM1.lt k e) (Nat.le_refl _))⟩
  case round =>
    obtain ⟨k, rfl, hk, hB, hM⟩ := hrel
    by_cases hlt : k < n
    · have hk1 : (k : Int) < (n : Int) := by omega
      have hsrc := HR.out.but (S := fun _ => False) hbl (But.of_below (hB.mono (Nat.le_refl _))) (fun _ _ e => e) HH.out.ob
      obtain ⟨g0, ha0, hg0, c0⟩ := hsrc.sl.cell (flatC_0 M A C k (by rw [HN.out]; exact hlt))
      obtain ⟨g0', q1, _, c1⟩ := hsrc.sl.cell (flatC_1 M A C k (by rw [HN.out]; exact hlt))
      obtain ⟨g0'', q2, _, c2⟩ := hsrc.sl.cell (flatC_2 M A C k (by rw [HN.out]; exact hlt))
      rw [ha0] at q1 q2
      cases q1; cases q2
      subst ha0
      have hits := hsrc.its k (by rw [HN.out]; exact hlt)
      have hfew := HH.out.few k
      obtain ⟨a2, cap2, A2, C2, hr2⟩ := hM.row
      have hlen2 : (M.upto k).len = n := HN.out
      obtain ⟨g2, ha2, hg2, _⟩ := hr2.sl.cell (flatC_0 _ A2 C2 k (by rw [hlen2]; exact hlt))
      subst ha2
      have hd2 := hr2.hd
      rw [hlen2] at hd2
      have hle2 := hr2.sl.le
      rw [hlen2] at hle2
      have hb2l := hM.lt b' hM.ob
      have hcl2 : ∀ q, q < n * 3 → (wr.cell? ⟨g2, q, none⟩).isSome = true ∧ wr.frozen? ⟨g2, q, none⟩ = false := by
        rcases hr2.sl with ⟨e, _⟩ | ⟨g', e, hf⟩
        · cases e
        · cases e
          exact fun q hq => hf.there q (by omega)
      have FC := hidq (fun W (hW : But (fun _ => False) wr W) => (show W.cell? ⟨b', 0, none⟩ = some (.slice (some ⟨g2, 0, none⟩) n cap2) ∧ g2 < W.heap.size ∧ (∃ u0, W.cell? ⟨g2, k * 3, none⟩ = some u0) ∧ (∃ u1, W.cell? ⟨g2, k * 3 + 1, none⟩ = some u1) ∧ (∃ u2, W.cell? ⟨g2, k * 3 + 2, none⟩ = some u2) ∧ W.frozen? ⟨g2, k * 3, none⟩ = false ∧ W.frozen? ⟨g2, k * 3 + 1, none⟩ = false ∧ W.frozen? ⟨g2, k * 3 + 2, none⟩ = false from by
        have hc : ∀ q, q < n * 3 → (∃ u, W.cell? ⟨g2, q, none⟩ = some u) ∧ W.frozen? ⟨g2, q, none⟩ = false := fun q hq => by
          rw [hW.cell (p := ⟨g2, q, none⟩) hg2 id, hW.frozen (p := ⟨g2, q, none⟩) hg2 id]
          exact ⟨Option.isSome_iff_exists.1 (hcl2 q hq).1, (hcl2 q hq).2⟩
        exact ⟨(hW.cell (p := ⟨b', 0, none⟩) hb2l id).trans hd2, Nat.lt_of_lt_of_le hg2 hW.size, (hc _ (by omega)).1, (hc _ (by omega)).1, (hc _ (by omega)).1, (hc _ (by omega)).2, (hc _ (by omega)).2, (hc _ (by omega)).2⟩))
      have FB := hidq (fun W (hW : But (fun _ => False) (wr.alloc (boxC (M.cell k).ver (M.cell k).n (.slice (A k) (M.cell k).L.length (C k)))) W) => (show W.cell? ⟨wr.heap.size, 0, none⟩ = some (.int .u64 (M.cell k).ver) ∧ W.cell? ⟨wr.heap.size, 1, none⟩ = some (.int .i64 (M.cell k).n) ∧ W.cell? ⟨wr.heap.size, 2, none⟩ = some (.slice (A k) (M.cell k).L.length (C k)) from
        ⟨(hW.cell (p := ⟨wr.heap.size, 0, none⟩) (by simp) id).trans ((World.cell?_alloc_new _ _ _ 0).trans rfl), (hW.cell (p := ⟨wr.heap.size, 1, none⟩) (by simp) id).trans ((World.cell?_alloc_new _ _ _ 1).trans rfl), (hW.cell (p := ⟨wr.heap.size, 2, none⟩) (by simp) id).trans ((World.cell?_alloc_new _ _ _ 2).trans rfl)⟩))
      have hcp := hidq (fun W (hW : But (fun _ => False) wr W) => copied_any (M.cell k).ver (M.cell k).n (A k) (C k) _ _ W (hits.but hW (fun _ _ e => e)) hfew)
      have FIN := hidq (fun w3 a' cap' (hb : But (fun _ => False) wr w3) (hS3 : SlAt 2 w3 a' cap' (M.cell k).L.length (flatI (M.cell k).L)) (hF3 : ∀ j, inB a' j → wr.heap.size ≤ j) w4 hw4 => mem_set hM (by rw [hlen2]; exact hlt) g2 cap2 A2 C2 hr2 (M.cell k).ver (M.cell k).n (M.cell k).L a' cap' hb hS3 hF3 hfew w4 hw4)
      rw [show (⟨(M.cell k).ver, (M.cell k).n, (M.cell k).L⟩ : CV) = M.cell k from rfl, upto_lay] at FIN
      have hg2o := (hr2.own g2 ⟨_, rfl, rfl⟩).1
      obtain ⟨e1, e2⟩ := HB'.out
      have hs1 : W1.heap.size ≤ wr.heap.size := by
        rcases Nat.lt_or_ge wr.heap.size W1.heap.size with e | e
        · have := hM.lt b' hM.ob; omega
        · exact e
      have END := hidq (fun w4 (h1 : MemAt w4 b' (own' (own' (fun k => k = w.heap.size ∨ k = b') W1 wr) wr w4) (M.upto (k + 1))) (h2 : But (fun k => k = g2) wr w4) => (show Below w.heap.size w w4 ∧ MemAt w4 b' (own' (fun k => k = w.heap.size ∨ k = b') W1 w4) (M.upto (k + 1)) from by
        refine ⟨hB.trans (h2.below hB.size (fun j e => ?_)), h1.own (fun j hj => own'_mono hs1 h2.size hj) (own'_lt (fun j e => hM1.lt j e) (Nat.le_trans hs1 h2.size))⟩
        rw [e]
        rcases hg2o with (e | e) | e <;> omega))
      generalize (M.cell k).ver = ve at *
      generalize (M.cell k).n = vn at *
      generalize (M.cell k).L = vL at *
      generalize A k = ak at *
      generalize C k = ck at *
      clear hsrc hr2 hM hits hcl2 HR HUA hM1 hg2o e1 e2
      go_wp2
      go_region_with (go_at_call 59; refine (hcp.out _ (((But.refl _ wr).alloc _).drew)).mono ?_; rintro e w3 ⟨a', cap', rfl, hS3, hf3, hb3⟩; have hbb : But (fun _ => False) wr w3 := (((But.refl _ wr).alloc _).drew).trans (But.of_below hb3); have hbx : But (fun _ => False) (wr.alloc (boxC ve vn (.slice ak vL.length ck))) w3 := ((But.refl _ _).drew).trans (But.of_below hb3); obtain ⟨f0, f1, ⟨u0, f2⟩, ⟨u1, f3⟩, ⟨u2, f4⟩, f5, f6, f7⟩ := FC.out w3 hbb; obtain ⟨x0, x1, x2⟩ := FB.out w3 hbx; have HS3 := hidq hS3; have HF3 := hidq (show ∀ j, inB a' j → wr.heap.size ≤ j from fun j hj => by have := hf3 j hj; simp at this; omega); clear hS3 hf3)
      all_goals go_wp2
      all_goals go_roundw
      all_goals first
        | (show (_ : Nat) < _; simp [intOf]; omega)
        | (obtain ⟨y1, y2⟩ := FIN.out w3 a' cap' hbb HS3.out HF3.out _ rfl
           obtain ⟨y3, y4⟩ := END.out _ y1 y2
           exact ⟨k + 1, by go_num, by omega, y3, y4⟩)
    · have hdl : decide ((k : Int) < (n : Int)) = false := decide_eq_false (by omega)
      have hdn : decide (k < n) = false := decide_eq_false hlt
      have hkn : k = n := by omega
      have hMf : MemAt wr b' (own' (fun k => k = w.heap.size ∨ k = b') W1 wr) M := by
        have := hM
        rw [hkn, ← HN.out, HUA.out] at this
        exact this
      have HMf := hidq hMf
      obtain ⟨e1, e2⟩ := HB'.out
      have HO := hidq (show ∀ j, own' (fun k => k = w.heap.size ∨ k = b') W1 wr j → w.heap.size ≤ j from fun j hj => by rcases hj with (e | e) | e <;> omega)
      have hlo : w.heap.size ≤ b' := by omega
      clear hM hMf hkn e1 e2 hM1
      go_wp2
      go_ret
      exact ⟨b', _, rfl, hlo, HO.out, HMf.out, hB⟩
end Go.Proofs.Ytepigofpcjmddaa

namespace Go.Proofs.Ytepigofpcjmddaa
open Go.RowKit Go.Sort

/-- A store into a box's first cell, which holds a slice, leaves a row that begins with no slice. -/
theorem Flat.aside {k g cap n b : Nat} {w : World} {l : List Value} {a : Option Addr} {m c : Nat} (h : Flat k w g cap n l) (hb : w.cell? ⟨b, 0, none⟩ = some (.slice a m c)) (hl : ∀ a m c, l[0]? ≠ some (.slice a m c)) (v : Value) : Flat k (w.setCell ⟨b, 0, none⟩ v) g cap n l := by
  by_cases e : g = b
  · subst e
    have hn : l = [] := by
      cases l with
      | nil => rfl
      | cons u l =>
        have := h.cell 0 u rfl
        rw [hb] at this
        injection this with this
        exact absurd (by rw [this]; rfl) (hl a m c)
    subst hn
    have hc : (w.cell? ⟨g, 0, none⟩).isSome = true := by rw [hb]; rfl
    refine ⟨by rw [World.size_setCell]; exact h.lt, h.len, h.le, h.cmax, fun t u hu => by simp at hu, h.one, fun j hj => ?_⟩
    refine ⟨?_, by rw [World.frozen?_setCell]; exact (h.there j hj).2⟩
    by_cases e : 0 = j
    · subst e; rw [World.cell?_setCell_same' _ _ _ hc]; rfl
    · rw [World.cell?_setCell_other _ _ _ _ (fun q => e (by injection q))]; exact (h.there j hj).1
  · exact h.but (S := fun k => k = b) ((But.refl (fun k => k = b) w).set1 b 0 rfl v) e
theorem SlAt.aside {k cap n b : Nat} {w : World} {s : Option Addr} {l : List Value} {a : Option Addr} {m c : Nat} (h : SlAt k w s cap n l) (hb : w.cell? ⟨b, 0, none⟩ = some (.slice a m c)) (hl : ∀ a m c, l[0]? ≠ some (.slice a m c)) (v : Value) : SlAt k (w.setCell ⟨b, 0, none⟩ v) s cap n l := by
  rcases h with h | ⟨g, h1, h2⟩
  · exact .inl h
  · exact .inr ⟨g, h1, h2.aside hb hl v⟩
theorem flatR_head (L : List KI) (a : Option Addr) (m c : Nat) : (flatR L)[0]? ≠ some (.slice a m c) := by
  cases L with
  | nil => simp [flatR]
  | cons x L => simp [flatR, encR]
theorem RefIn.aside {Q : Nat → Prop} {b cap : Nat} {w : World} {s : Option Addr} {ps : List RP} {a : Option Addr} {m c : Nat} (h : RefIn Q w s cap ps) (hb : w.cell? ⟨b, 0, none⟩ = some (.slice a m c)) (v : Value) : RefIn Q (w.setCell ⟨b, 0, none⟩ v) s cap ps := by
  obtain ⟨A, C, h1, h2, h3, h4⟩ := h
  refine ⟨A, C, h1.aside hb (fun a m c e => ?_) v, fun i hi => (h2 i hi).aside hb (fun a m c => flatR_head _ a m c) v, h3, h4⟩
  rcases Nat.eq_zero_or_pos ps.length with h0 | h0
  · have : (flatP ps A C).length = 0 := by rw [flatP_length, h0]
    rw [List.getElem?_eq_none (by omega)] at e
    cases e
  · have := flatP_0 ps A C 0 h0
    rw [Nat.zero_mul] at this
    rw [this] at e
    cases e
/-- The document's memory behind a write. -/
def rput (ps : List RP) (i ver x : Int) (L : List KI) : List RP := if rcan ps i ver = true then ps ++ [(i, x, L)] else ps
theorem rput_len (ps : List RP) (i ver x : Int) (L : List KI) : (rput ps i ver x L).length ≤ ps.length + 1 := by unfold rput; split <;> simp
theorem rwrite5_all (Q : Nat → Prop) (a : Option Addr) (cap n : Nat) (ps : List RP) (i ver x : Int) (s : Option Addr) (l c : Nat) (L : List KI) (w : World) (h : RefIn Q w a cap ps) (hQs : ∀ j, inB s j → Q j) (hQf : ∀ j, w.heap.size ≤ j → Q j) (hn : ps.length = n) (hn2 : n ≤ 100000) (hS : SlAt 2 w s c l (flatR L)) (hl : L.length = l) :
    Calls Try.prog 54 #[.agg #[.slice a n cap], .int .i64 i, .int .i64 ver, .agg #[.int .i64 x, .slice s l c]] w fun e w' => ∃ a' cap', e = .returned (.tuple #[.agg #[.slice a' (rput ps i ver x L).length cap'], .bool (rcan ps i ver)]) ∧ RefIn Q w' a' cap' (rput ps i ver x L) ∧ Below w.heap.size w w' := by
  refine (rwrite5_in Q a cap n ps i ver x s l c L w h hQs hQf hn hn2 hS hl).mono ?_
  rintro e w' ⟨hb, ⟨hc, a', cap', rfl, hR⟩ | ⟨hc, rfl⟩⟩
  · have : rput ps i ver x L = ps ++ [(i, x, L)] := if_pos hc
    rw [this, hc]
    exact ⟨a', cap', by rw [List.length_append, hn]; rfl, hR, hb⟩
  · have : rput ps i ver x L = ps := if_neg (by rw [hc]; decide)
    rw [this, hc]
    exact ⟨a, cap, by rw [hn], h.below hb, hb⟩
theorem force_write (M : Mem) (i x : Int) (L : List It) : M.force i x L = M.write i (M.look i).ver x L ∧ inRange i = M.can i (M.look i).ver := by
  have h : inRange i = M.can i (M.look i).ver := by unfold inRange Mem.can; simp
  refine ⟨?_, h⟩
  unfold Mem.force Mem.write
  rw [h]
theorem Rel.put5 {M : Mem} {ps : List RP} (h : Rel M ps) (i v x : Int) (L : List KI) : Rel (M.write i v x (kts L)) (rput ps i v x L) := h.write i v x L
theorem write_clock (M : Mem) (i v x : Int) (L : List It) : (M.write i v x L).clock ≤ M.clock + 1 := by
  unfold Mem.write
  split
  · exact Nat.le_refl _
  · omega
end Go.Proofs.Ytepigofpcjmddaa

namespace Go.Proofs.Ytepigofpcjmddaa
open Go.RowKit

theorem i64_and255 (n : Int) : bits .and .i64 n 255 = n % 256 := by
  have h : (BitVec.ofInt 64 255).toNat = 2 ^ 8 - 1 := by decide
  have key : (BitVec.ofInt 64 n &&& BitVec.ofInt 64 255).toNat = (n % ((2 ^ 64 : Nat) : Int)).toNat % 2 ^ 8 := by
    rw [BitVec.toNat_and, BitVec.toNat_ofInt, h, Nat.and_two_pow_sub_one_eq_mod]
  show IntKind.i64.wrap ((BitVec.ofInt 64 n &&& BitVec.ofInt 64 255).toNat : Nat) = n % 256
  rw [key, IntKind.wrap_i64]
  omega
theorem i64_and1 (n : Int) : bits .and .i64 n 1 = n % 2 := by
  have h : (BitVec.ofInt 64 1).toNat = 2 ^ 1 - 1 := by decide
  have key : (BitVec.ofInt 64 n &&& BitVec.ofInt 64 1).toNat = (n % ((2 ^ 64 : Nat) : Int)).toNat % 2 ^ 1 := by
    rw [BitVec.toNat_and, BitVec.toNat_ofInt, h, Nat.and_two_pow_sub_one_eq_mod]
  show IntKind.i64.wrap ((BitVec.ofInt 64 n &&& BitVec.ofInt 64 1).toNat : Nat) = n % 2
  rw [key, IntKind.wrap_i64]
  omega
end Go.Proofs.Ytepigofpcjmddaa

namespace Go.Proofs.Ytepigofpcjmddaa
open Go.RowKit

/-- A cell's number. -/
def at5 (n : Int) : Int := if 0 ≤ n ∧ n < 40 then n % 10 else n
theorem at5_in {n : Int} (h : 0 ≤ n ∧ n < 40) : at5 n = n % 10 := if_pos h
theorem at5_out {n : Int} (h : ¬ (0 ≤ n ∧ n < 40)) : at5 n = n := if_neg h
theorem at5_any (n : Int) (w : World) : Calls Try.prog 26 #[.int .i64 n] w fun e w' => e = .returned (.int .i64 (at5 n)) ∧ w' = w := by
  by_cases h0 : 0 ≤ n
  · by_cases h1 : n < 40
    · rw [at5_in ⟨h0, h1⟩]
      have ht : n.tmod 10 = n % 10 := Int.tmod_eq_emod_of_nonneg h0
      have HT : Hid (∀ _ : Unit, n.tmod 10 = n % 10) := fun _ => ht
      clear ht
      go_enter Try.func26, Try.ntmps26
      go_wp2
      go_ret
      exact ⟨by first | rfl | (rw [← HT ()]; rfl), rfl⟩
    · rw [at5_out (fun e => h1 e.2)]
      have h1' : decide (n < 40) = false := decide_eq_false h1
      go_enter Try.func26, Try.ntmps26
      go_wp2
      go_ret
      exact ⟨rfl, rfl⟩
  · rw [at5_out (fun e => h0 e.1)]
    have h0' : decide (0 ≤ n) = false := decide_eq_false h0
    go_enter Try.func26, Try.ntmps26
    go_wp2
    go_ret
    exact ⟨rfl, rfl⟩
end Go.Proofs.Ytepigofpcjmddaa
