/-
  Layer 14: may a call stand behind the last one of each thread: contract.
-/
import Derived.Test.YtepigofpcjmddaaFlatCl14All
import Derived.Test.YtepigofpcjmddaaTail
namespace Go.Proofs.Ytepigofpcjmddaa
open Go.RowKit Go.Sort

def folltfR (k : Nat) (xb : Nat) (db : Nat) (off : Nat) (c : Cl) (d : Cl) : List (Value → World → Prop) :=
  [fun v _ => v = .int .i64 (k : Int),
   fun v _ => v = .pointer (some ⟨xb, 0, none⟩),
   fun v _ => v = .int .i64 c.thread,
   fun v _ => v = .bool true,
   fun v _ => v = .bool true,
   fun v _ => v = .pointer (some ⟨db, off, none⟩),
   fun v _ => v = .pointer (some ⟨db, off, none⟩),
   fun v _ => v = .agg #[.int .i64 d.thread, .int .i64 d.kind, .float .f64 d.pri, .int .i64 d.val, .int .i64 d.d0, .int .i64 d.d1, .int .i64 d.beg, .int .i64 d.fin, .bool d.ans.ok, .float .f64 d.ans.pri, .int .i64 d.ans.val, .int .i64 d.ans.n],
   fun v _ => v = .agg #[.int .i64 c.thread, .int .i64 c.kind, .float .f64 c.pri, .int .i64 c.val, .int .i64 c.d0, .int .i64 c.d1, .int .i64 c.beg, .int .i64 c.fin, .bool c.ans.ok, .float .f64 c.ans.pri, .int .i64 c.ans.val, .int .i64 c.ans.n],
   fun v _ => v = .bool false,
   fun v _ => v = .bool true,
   fun v _ => v = .bool true,
   fun v _ => v = .bool true,
   fun v _ => v = undef,
   fun v _ => v = undef,
   fun v _ => v = undef,
   fun v _ => v = undef,
   fun v _ => v = undef,
   fun v _ => v = undef,
   fun v _ => v = undef,
   fun v _ => v = undef,
   fun v _ => v = undef,
   fun v _ => v = undef,
   fun v _ => v = undef,
   fun v _ => v = .bool true]
theorem folltfR_kept (k : Nat) (xb : Nat) (db : Nat) (off : Nat) (c : Cl) (d : Cl) : Reg.AllKept Reg.Keeps (folltfR k xb db off c d) :=
  ⟨(fun _ _ _ _ h => h), (fun _ _ _ _ h => h), (fun _ _ _ _ h => h), (fun _ _ _ _ h => h), (fun _ _ _ _ h => h), (fun _ _ _ _ h => h), (fun _ _ _ _ h => h), (fun _ _ _ _ h => h), (fun _ _ _ _ h => h), (fun _ _ _ _ h => h), (fun _ _ _ _ h => h), (fun _ _ _ _ h => h), (fun _ _ _ _ h => h), (fun _ _ _ _ h => h), (fun _ _ _ _ h => h), (fun _ _ _ _ h => h), (fun _ _ _ _ h => h), (fun _ _ _ _ h => h), (fun _ _ _ _ h => h), (fun _ _ _ _ h => h), (fun _ _ _ _ h => h), (fun _ _ _ _ h => h), (fun _ _ _ _ h => h), (fun _ _ _ _ h => h), (fun _ _ _ _ h => h), trivial⟩

def folltttR (k : Nat) (xb : Nat) (db : Nat) (off : Nat) (c : Cl) (d : Cl) (q : Bool) : List (Value → World → Prop) :=
  [fun v _ => v = .int .i64 (k : Int),
   fun v _ => v = .pointer (some ⟨xb, 0, none⟩),
   fun v _ => v = .int .i64 c.thread,
   fun v _ => v = .bool true,
   fun v _ => v = .bool true,
   fun v _ => v = .pointer (some ⟨db, off, none⟩),
   fun v _ => v = .pointer (some ⟨db, off, none⟩),
   fun v _ => v = .agg #[.int .i64 d.thread, .int .i64 d.kind, .float .f64 d.pri, .int .i64 d.val, .int .i64 d.d0, .int .i64 d.d1, .int .i64 d.beg, .int .i64 d.fin, .bool d.ans.ok, .float .f64 d.ans.pri, .int .i64 d.ans.val, .int .i64 d.ans.n],
   fun v _ => v = .agg #[.int .i64 c.thread, .int .i64 c.kind, .float .f64 c.pri, .int .i64 c.val, .int .i64 c.d0, .int .i64 c.d1, .int .i64 c.beg, .int .i64 c.fin, .bool c.ans.ok, .float .f64 c.ans.pri, .int .i64 c.ans.val, .int .i64 c.ans.n],
   fun v _ => v = .bool true,
   fun v _ => v = .bool false,
   fun v _ => v = .bool false,
   fun v _ => v = .bool false,
   fun v _ => v = .agg #[.int .i64 c.thread, .int .i64 c.kind, .float .f64 c.pri, .int .i64 c.val, .int .i64 c.d0, .int .i64 c.d1, .int .i64 c.beg, .int .i64 c.fin, .bool c.ans.ok, .float .f64 c.ans.pri, .int .i64 c.ans.val, .int .i64 c.ans.n],
   fun v _ => v = .bool true,
   fun v _ => v = .bool true,
   fun v _ => v = .pointer (some ⟨xb, 7, none⟩),
   fun v _ => v = .int .i64 c.fin,
   fun v _ => v = .pointer (some ⟨db, off, none⟩),
   fun v _ => v = .pointer (some ⟨db, off, none⟩),
   fun v _ => v = .pointer (some ⟨db, off + 7, none⟩),
   fun v _ => v = .int .i64 d.fin,
   fun v _ => v = .bool q,
   fun v _ => v = .bool q,
   fun v _ => v = .bool q]
theorem folltttR_kept (k : Nat) (xb : Nat) (db : Nat) (off : Nat) (c : Cl) (d : Cl) (q : Bool) : Reg.AllKept Reg.Keeps (folltttR k xb db off c d q) :=
  ⟨(fun _ _ _ _ h => h), (fun _ _ _ _ h => h), (fun _ _ _ _ h => h), (fun _ _ _ _ h => h), (fun _ _ _ _ h => h), (fun _ _ _ _ h => h), (fun _ _ _ _ h => h), (fun _ _ _ _ h => h), (fun _ _ _ _ h => h), (fun _ _ _ _ h => h), (fun _ _ _ _ h => h), (fun _ _ _ _ h => h), (fun _ _ _ _ h => h), (fun _ _ _ _ h => h), (fun _ _ _ _ h => h), (fun _ _ _ _ h => h), (fun _ _ _ _ h => h), (fun _ _ _ _ h => h), (fun _ _ _ _ h => h), (fun _ _ _ _ h => h), (fun _ _ _ _ h => h), (fun _ _ _ _ h => h), (fun _ _ _ _ h => h), (fun _ _ _ _ h => h), (fun _ _ _ _ h => h), trivial⟩

def follttfR (k : Nat) (xb : Nat) (db : Nat) (off : Nat) (c : Cl) (d : Cl) : List (Value → World → Prop) :=
  [fun v _ => v = .int .i64 (k : Int),
   fun v _ => v = .pointer (some ⟨xb, 0, none⟩),
   fun v _ => v = .int .i64 c.thread,
   fun v _ => v = .bool true,
   fun v _ => v = .bool true,
   fun v _ => v = .pointer (some ⟨db, off, none⟩),
   fun v _ => v = .pointer (some ⟨db, off, none⟩),
   fun v _ => v = .agg #[.int .i64 d.thread, .int .i64 d.kind, .float .f64 d.pri, .int .i64 d.val, .int .i64 d.d0, .int .i64 d.d1, .int .i64 d.beg, .int .i64 d.fin, .bool d.ans.ok, .float .f64 d.ans.pri, .int .i64 d.ans.val, .int .i64 d.ans.n],
   fun v _ => v = .agg #[.int .i64 c.thread, .int .i64 c.kind, .float .f64 c.pri, .int .i64 c.val, .int .i64 c.d0, .int .i64 c.d1, .int .i64 c.beg, .int .i64 c.fin, .bool c.ans.ok, .float .f64 c.ans.pri, .int .i64 c.ans.val, .int .i64 c.ans.n],
   fun v _ => v = .bool true,
   fun v _ => v = .bool false,
   fun v _ => v = .bool false,
   fun v _ => v = .bool false,
   fun v _ => v = .agg #[.int .i64 c.thread, .int .i64 c.kind, .float .f64 c.pri, .int .i64 c.val, .int .i64 c.d0, .int .i64 c.d1, .int .i64 c.beg, .int .i64 c.fin, .bool c.ans.ok, .float .f64 c.ans.pri, .int .i64 c.ans.val, .int .i64 c.ans.n],
   fun v _ => v = .bool false,
   fun v _ => v = .bool false,
   fun v _ => v = undef,
   fun v _ => v = undef,
   fun v _ => v = undef,
   fun v _ => v = undef,
   fun v _ => v = undef,
   fun v _ => v = undef,
   fun v _ => v = undef,
   fun v _ => v = .bool false,
   fun v _ => v = .bool false]
theorem follttfR_kept (k : Nat) (xb : Nat) (db : Nat) (off : Nat) (c : Cl) (d : Cl) : Reg.AllKept Reg.Keeps (follttfR k xb db off c d) :=
  ⟨(fun _ _ _ _ h => h), (fun _ _ _ _ h => h), (fun _ _ _ _ h => h), (fun _ _ _ _ h => h), (fun _ _ _ _ h => h), (fun _ _ _ _ h => h), (fun _ _ _ _ h => h), (fun _ _ _ _ h => h), (fun _ _ _ _ h => h), (fun _ _ _ _ h => h), (fun _ _ _ _ h => h), (fun _ _ _ _ h => h), (fun _ _ _ _ h => h), (fun _ _ _ _ h => h), (fun _ _ _ _ h => h), (fun _ _ _ _ h => h), (fun _ _ _ _ h => h), (fun _ _ _ _ h => h), (fun _ _ _ _ h => h), (fun _ _ _ _ h => h), (fun _ _ _ _ h => h), (fun _ _ _ _ h => h), (fun _ _ _ _ h => h), (fun _ _ _ _ h => h), (fun _ _ _ _ h => h), trivial⟩

def follftR (k : Nat) (xb : Nat) (db : Nat) (off : Nat) (c : Cl) (d : Cl) (q : Bool) : List (Value → World → Prop) :=
  [fun v _ => v = .int .i64 (k : Int),
   fun v _ => v = .pointer (some ⟨xb, 0, none⟩),
   fun v _ => v = .int .i64 c.thread,
   fun v _ => v = .bool false,
   fun v _ => v = .bool false,
   fun v _ => v = undef,
   fun v _ => v = undef,
   fun v _ => v = undef,
   fun v _ => v = undef,
   fun v _ => v = undef,
   fun v _ => v = undef,
   fun v _ => v = .bool false,
   fun v _ => v = .bool false,
   fun v _ => v = .agg #[.int .i64 c.thread, .int .i64 c.kind, .float .f64 c.pri, .int .i64 c.val, .int .i64 c.d0, .int .i64 c.d1, .int .i64 c.beg, .int .i64 c.fin, .bool c.ans.ok, .float .f64 c.ans.pri, .int .i64 c.ans.val, .int .i64 c.ans.n],
   fun v _ => v = .bool true,
   fun v _ => v = .bool true,
   fun v _ => v = .pointer (some ⟨xb, 7, none⟩),
   fun v _ => v = .int .i64 c.fin,
   fun v _ => v = .pointer (some ⟨db, off, none⟩),
   fun v _ => v = .pointer (some ⟨db, off, none⟩),
   fun v _ => v = .pointer (some ⟨db, off + 7, none⟩),
   fun v _ => v = .int .i64 d.fin,
   fun v _ => v = .bool q,
   fun v _ => v = .bool q,
   fun v _ => v = .bool q]
theorem follftR_kept (k : Nat) (xb : Nat) (db : Nat) (off : Nat) (c : Cl) (d : Cl) (q : Bool) : Reg.AllKept Reg.Keeps (follftR k xb db off c d q) :=
  ⟨(fun _ _ _ _ h => h), (fun _ _ _ _ h => h), (fun _ _ _ _ h => h), (fun _ _ _ _ h => h), (fun _ _ _ _ h => h), (fun _ _ _ _ h => h), (fun _ _ _ _ h => h), (fun _ _ _ _ h => h), (fun _ _ _ _ h => h), (fun _ _ _ _ h => h), (fun _ _ _ _ h => h), (fun _ _ _ _ h => h), (fun _ _ _ _ h => h), (fun _ _ _ _ h => h), (fun _ _ _ _ h => h), (fun _ _ _ _ h => h), (fun _ _ _ _ h => h), (fun _ _ _ _ h => h), (fun _ _ _ _ h => h), (fun _ _ _ _ h => h), (fun _ _ _ _ h => h), (fun _ _ _ _ h => h), (fun _ _ _ _ h => h), (fun _ _ _ _ h => h), (fun _ _ _ _ h => h), trivial⟩

def follffR (k : Nat) (xb : Nat) (c : Cl) : List (Value → World → Prop) :=
  [fun v _ => v = .int .i64 (k : Int),
   fun v _ => v = .pointer (some ⟨xb, 0, none⟩),
   fun v _ => v = .int .i64 c.thread,
   fun v _ => v = .bool false,
   fun v _ => v = .bool false,
   fun v _ => v = undef,
   fun v _ => v = undef,
   fun v _ => v = undef,
   fun v _ => v = undef,
   fun v _ => v = undef,
   fun v _ => v = undef,
   fun v _ => v = .bool false,
   fun v _ => v = .bool false,
   fun v _ => v = .agg #[.int .i64 c.thread, .int .i64 c.kind, .float .f64 c.pri, .int .i64 c.val, .int .i64 c.d0, .int .i64 c.d1, .int .i64 c.beg, .int .i64 c.fin, .bool c.ans.ok, .float .f64 c.ans.pri, .int .i64 c.ans.val, .int .i64 c.ans.n],
   fun v _ => v = .bool false,
   fun v _ => v = .bool false,
   fun v _ => v = undef,
   fun v _ => v = undef,
   fun v _ => v = undef,
   fun v _ => v = undef,
   fun v _ => v = undef,
   fun v _ => v = undef,
   fun v _ => v = undef,
   fun v _ => v = .bool false,
   fun v _ => v = .bool false]
theorem follffR_kept (k : Nat) (xb : Nat) (c : Cl) : Reg.AllKept Reg.Keeps (follffR k xb c) :=
  ⟨(fun _ _ _ _ h => h), (fun _ _ _ _ h => h), (fun _ _ _ _ h => h), (fun _ _ _ _ h => h), (fun _ _ _ _ h => h), (fun _ _ _ _ h => h), (fun _ _ _ _ h => h), (fun _ _ _ _ h => h), (fun _ _ _ _ h => h), (fun _ _ _ _ h => h), (fun _ _ _ _ h => h), (fun _ _ _ _ h => h), (fun _ _ _ _ h => h), (fun _ _ _ _ h => h), (fun _ _ _ _ h => h), (fun _ _ _ _ h => h), (fun _ _ _ _ h => h), (fun _ _ _ _ h => h), (fun _ _ _ _ h => h), (fun _ _ _ _ h => h), (fun _ _ _ _ h => h), (fun _ _ _ _ h => h), (fun _ _ _ _ h => h), (fun _ _ _ _ h => h), (fun _ _ _ _ h => h), trivial⟩

/-- May it stand behind this thread's last one? -/
def folOk (c : Cl) (t : Nat) (d : Option Cl) : Bool := match d with
  | none => true
  | some d => !((decide ((t : Int) = c.thread) && !(d.ahead c)) || (c.done && (c.fin == d.fin)))
def fol (c : Cl) (D : Nat → Option Cl) : Bool := (List.range 6).all (fun t => folOk c t (D t))
theorem fol_iff (c : Cl) (D : Nat → Option Cl) : fol c D = true ↔ ∀ t, t < 6 → folOk c t (D t) = true := by unfold fol; simp only [List.all_eq_true, List.mem_range]
theorem fol_no {c : Cl} {D : Nat → Option Cl} {k : Nat} (hk : k < 6) (h : folOk c k (D k) = false) : fol c D = false := by
  cases e : fol c D
  · rfl
  · have := (fol_iff c D).1 e k hk
    rw [h] at this; cases this
/-- The last call of each thread, where it lies. -/
def LastAt (w : World) (P : Nat → Option Addr) (D : Nat → Option Cl) : Prop :=
  ∀ t, t < 6 → (P t = none ∧ D t = none) ∨ ∃ b off c, P t = some ⟨b, off, none⟩ ∧ D t = some c ∧ b < w.heap.size ∧ ∀ k u, c.l[k]? = some u → w.cell? ⟨b, off + k, none⟩ = some u
theorem LastAt.below {w w' : World} {P : Nat → Option Addr} {D : Nat → Option Cl} (h : LastAt w P D) (hb : Below w.heap.size w w') : LastAt w' P D := fun t ht => by
  rcases h t ht with e | ⟨b, off, c, h1, h2, h3, h4⟩
  · exact .inl e
  · exact .inr ⟨b, off, c, h1, h2, Nat.lt_of_lt_of_le h3 hb.size, fun k u hu => by rw [hb.cell (p := ⟨b, off + k, none⟩) h3]; exact h4 k u hu⟩

set_option maxRecDepth 20000 in
set_option maxHeartbeats 8000000 in
theorem follows_any (c : Cl) (P : Nat → Option Addr) (D : Nat → Option Cl) (w : World) (hP : LastAt w P D) :
    Calls Try.prog 108 #[c.v, .agg #[.pointer (P 0), .pointer (P 1), .pointer (P 2), .pointer (P 3), .pointer (P 4), .pointer (P 5)]] w fun e w' => e = .returned (.bool (fol c D)) ∧ Below w.heap.size w w' := by
  obtain ⟨W0, hW0, hb0, hs0, hX0, hL0⟩ := two_new w c.l [.pointer (P 0), .pointer (P 1), .pointer (P 2), .pointer (P 3), .pointer (P 4), .pointer (P 5)] 101 190 0
  have hW0' : (w.alloc (.cells c.l.toArray 101)).alloc (.cells #[.pointer (P 0), .pointer (P 1), .pointer (P 2), .pointer (P 3), .pointer (P 4), .pointer (P 5)] 190) = W0 := hW0
  clear hW0
  obtain ⟨xb, hxb⟩ : ∃ xb, w.heap.size = xb := ⟨_, rfl⟩
  rw [hxb] at hX0 hL0
  have hs0' : (w.alloc (.cells c.l.toArray 101)).heap.size = xb + 1 := by simp [hxb]
  obtain ⟨l0, _⟩ := hL0.get 0 _ rfl
  obtain ⟨l1, _⟩ := hL0.get 1 _ rfl
  obtain ⟨l2, _⟩ := hL0.get 2 _ rfl
  obtain ⟨l3, _⟩ := hL0.get 3 _ rfl
  obtain ⟨l4, _⟩ := hL0.get 4 _ rfl
  obtain ⟨l5, _⟩ := hL0.get 5 _ rfl
  have hll := hL0.lt
  have HX := hidq (And.intro hX0 (And.intro hb0 (hP.below hb0)))
  obtain ⟨res, hres⟩ : ∃ res, fol c D = res := ⟨_, rfl⟩
  rw [hres]
  have HRES := hidq hres
  clear hX0 hL0 hb0 hP hs0 hres
  go_enter Try.func108, Try.ntmps108
  go_wp2_with fail
  clear l0 l1 l2 l3 l4 l5
  go_loopw [8] (fun s8 wr => ∃ k : Nat, s8 = .int .i64 (k : Int) ∧ k ≤ 6 ∧ Hid ((∀ j, j < k → folOk c j (D j) = true) ∧ Below W0.heap.size W0 wr)) (fun s8 _ => 6 - (intOf s8).toNat)
  case atStart => exact ⟨0, rfl, by omega, (fun j hj => absurd hj (Nat.not_lt_zero _)), Below.refl _ _⟩
  case round =>
    obtain ⟨k, rfl, hk, hR⟩ := hrel
    by_cases hlt : k < 6
    case neg =>
      have hk6 : k = 6 := by omega
      have HE := hidq (show res = true ∧ Below w.heap.size w wr from ⟨by rw [← HRES.out]; exact (fol_iff c D).2 (fun t ht => hR.out.1 t (by omega)), HX.out.2.1.trans (hR.out.2.mono HX.out.2.1.size)⟩)
      subst hk6
      clear hR
      go_wp2_with fail
      go_ret
      exact ⟨by rw [HE.out.1]; rfl, HE.out.2⟩
    have hltI : (k : Int) < 6 := by omega
    have hix : ∀ w, (Instr.index 190 (.agg #[.pointer (P 0), .pointer (P 1), .pointer (P 2), .pointer (P 3), .pointer (P 4), .pointer (P 5)]) (.int .i64 (k : Int))).run Try.prog w = .ok (.pointer (P k)) w := by
      have hc : k = 0 ∨ k = 1 ∨ k = 2 ∨ k = 3 ∨ k = 4 ∨ k = 5 := by omega
      rcases hc with rfl | rfl | rfl | rfl | rfl | rfl <;> exact fun _ => by kernel_rfl
    have hrefl : ∀ w : World, Reg.Keeps w w := Reg.Keeps.refl
    rcases HX.out.2.2 k hlt with ⟨hPk, hDk⟩ | ⟨db, off, d, hPk, hDk, hdl, hdc⟩
    · obtain ⟨pk, hpk⟩ : ∃ pk, P k = pk := ⟨_, rfl⟩
      rw [hpk] at hix hPk
      subst hPk
      have HN := hidq (show (∀ j, j < k + 1 → folOk c j (D j) = true) from fun j hj => by
        by_cases e : j = k
        · subst e; rw [hDk]; rfl
        · exact hR.out.1 j (by omega))
      clear hpk hDk
      go_wp2_with fail
      go_roundw
      case rel => exact ⟨k + 1, by go_num, by omega, HN.out, hR.out.2⟩
      case measure => simp [intOf]; omega
    have hb2 := hR.out.2
    have hXr := HX.out.1.below hb2
    have FC := hidq (fun W (hW : Below wr.heap.size wr W) => (show _ from And.intro ((hXr.below hW).get 0 _ rfl).1 (And.intro ((hXr.below hW).get 1 _ rfl).1 (And.intro ((hXr.below hW).get 2 _ rfl).1 (And.intro ((hXr.below hW).get 3 _ rfl).1 (And.intro ((hXr.below hW).get 4 _ rfl).1 (And.intro ((hXr.below hW).get 5 _ rfl).1 (And.intro ((hXr.below hW).get 6 _ rfl).1 (And.intro ((hXr.below hW).get 7 _ rfl).1 (And.intro ((hXr.below hW).get 8 _ rfl).1 (And.intro ((hXr.below hW).get 9 _ rfl).1 (And.intro ((hXr.below hW).get 10 _ rfl).1 (And.intro ((hXr.below hW).get 11 _ rfl).1 (hXr.below hW).lt)))))))))))))
    have hdl2 : db < wr.heap.size := Nat.lt_of_lt_of_le hdl hb2.size
    have hdcr : ∀ W, Below wr.heap.size wr W → ∀ j u, d.l[j]? = some u → W.cell? ⟨db, off + j, none⟩ = some u := fun W hW j u hu => by
      rw [hW.cell (p := ⟨db, off + j, none⟩) hdl2, hb2.cell (p := ⟨db, off + j, none⟩) hdl]; exact hdc j u hu
    have FD := hidq (fun W (hW : Below wr.heap.size wr W) => (show _ from And.intro (show W.cell? ⟨db, off, none⟩ = some (.int .i64 d.thread) from hdcr W hW 0 _ rfl) (And.intro (hdcr W hW 1 _ rfl) (And.intro (hdcr W hW 2 _ rfl) (And.intro (hdcr W hW 3 _ rfl) (And.intro (hdcr W hW 4 _ rfl) (And.intro (hdcr W hW 5 _ rfl) (And.intro (hdcr W hW 6 _ rfl) (And.intro (hdcr W hW 7 _ rfl) (And.intro (hdcr W hW 8 _ rfl) (And.intro (hdcr W hW 9 _ rfl) (And.intro (hdcr W hW 10 _ rfl) (And.intro (hdcr W hW 11 _ rfl) (Nat.lt_of_lt_of_le hdl2 hW.size))))))))))))))
    have hAh := hidq (fun w => cahead_any d c w)
    have hDn := hidq (fun w => cdone_any c w)
    have HNX := hidq (fun (h : folOk c k (D k) = true) => (show (∀ j, j < k + 1 → folOk c j (D j) = true) from fun j hj => by
        by_cases e : j = k
        · subst e; exact h
        · exact hR.out.1 j (by omega)))
    have HNO := hidq (fun (h : folOk c k (D k) = false) => (show res = false from by
      rw [← HRES.out]; exact fol_no hlt h))
    have HLOW := hidq (fun W (hW : Below wr.heap.size wr W) => (show Below W0.heap.size W0 W ∧ Below w.heap.size w W from ⟨hb2.trans (hW.mono hb2.size), HX.out.2.1.trans ((hb2.trans (hW.mono hb2.size)).mono HX.out.2.1.size)⟩))
    obtain ⟨pk, hpk⟩ : ∃ pk, P k = pk := ⟨_, rfl⟩
    rw [hpk] at hix hPk
    subst hPk
    have HOK := hidq (show folOk c k (D k) = !((decide ((k : Int) = c.thread) && !(d.ahead c)) || (c.done && (c.fin == d.fin))) from by rw [hDk]; rfl)
    obtain ⟨q, hq⟩ : ∃ q, (c.fin == d.fin) = q := ⟨_, rfl⟩
    clear hpk hDk hdc hdcr hXr hb2
    generalize hah : d.ahead c = ah at hAh HOK
    generalize hdn : c.done = dn at hDn HOK
    rw [hq] at HOK
    clear hah hdn
    by_cases hth : (k : Int) = c.thread
    · have hteq : ((k : Int) == c.thread) = true := by rw [hth]; simp
      have HTH := hidq (show decide ((k : Int) = c.thread) = true from decide_eq_true hth)
      clear hth
      cases ah with
      | false =>
        go_wp2_with fail
        have hrefl : ∀ w : World, Reg.Keeps w w := Reg.Keeps.refl
        refine Reg.wp_region_props (Reg.ofList (folltfR k xb db off c d)) Reg.Keeps (fun _ w => Reg.Keeps wr w) (by kernel_rfl) (by kernel_rfl) (Reg.AllKept.at _ (folltfR_kept k xb db off c d)) hrefl (Reg.Keeps.drewN (Reg.Keeps.refl _) 1) ⟨?_, ?_, ?_, ?_, ?_, ?_, ?_, ?_, ?_, ?_, ?_, ?_, ?_, ?_, ?_, ?_, ?_, ?_, ?_, ?_, ?_, ?_, ?_, ?_, ?_, trivial⟩ ?_
        · refine Reg.StepAt.plain (i := 0) rfl ?_
          intro L ev w hI hk hp hA
          have e5 : ev (.tmp 5) = .int .i64 (k : Int) := hA.oldNone 5 (by kernel_rfl)
          have hcc := hA.const
          clear hA hp
          refine Reg.out_value (v := .int .i64 (k : Int)) ?_ ⟨rfl, hrefl _, hI⟩
          go_simp
        · refine Reg.StepAt.plain (i := 1) rfl ?_
          intro L ev w hI hk hp hA
          have e2 : ev (.tmp 2) = .pointer (some ⟨xb, 0, none⟩) := hA.oldNone 2 (by kernel_rfl)
          have hcc := hA.const
          clear hA hp
          refine Reg.out_value (v := .pointer (some ⟨xb, 0, none⟩)) ?_ ⟨rfl, hrefl _, hI⟩
          go_simp
        · refine Reg.StepAt.plain (i := 2) rfl ?_
          intro L ev w hI hk hp hA
          have e15 : ev (.tmp 15) = .pointer (some ⟨xb, 0, none⟩) := hA.val 1 _ 15 rfl (hp ⟨1, .data⟩ (by simp) rfl) rfl
          have hcc := hA.const
          clear hA hp
          obtain ⟨f0, f1, f2, f3, f4, f5, f6, f7, f8, f9, f10, f11, fl⟩ := FC.out w hI
          obtain ⟨m0, m1, m2, m3, m4, m5, m6, m7, m8, m9, m10, m11, ml⟩ := FD.out w hI
          refine Reg.out_value (v := .int .i64 c.thread) ?_ ⟨rfl, hrefl _, hI⟩
          go_simp
        · refine Reg.StepAt.plain (i := 3) rfl ?_
          intro L ev w hI hk hp hA
          have e14 : ev (.tmp 14) = .int .i64 (k : Int) := hA.val 0 _ 14 rfl (hp ⟨0, .data⟩ (by simp) rfl) rfl
          have e16 : ev (.tmp 16) = .int .i64 c.thread := hA.val 2 _ 16 rfl (hp ⟨2, .data⟩ (by simp) rfl) rfl
          have hcc := hA.const
          clear hA hp
          refine Reg.out_value (v := .bool true) ?_ ⟨rfl, hrefl _, hI⟩
          go_simp
        · refine Reg.StepAt.plain (i := 4) rfl ?_
          intro L ev w hI hk hp hA
          have e17 : ev (.tmp 17) = .bool true := hA.val 3 _ 17 rfl (hp ⟨3, .data⟩ (by simp) rfl) rfl
          have hcc := hA.const
          clear hA hp
          refine Reg.out_value (v := .bool true) ?_ ⟨rfl, hrefl _, hI⟩
          go_simp
        · refine Reg.StepAt.guarded (i := 5) rfl ?_
          intro L ev w hI hk hp hA
          have e6 : ev (.tmp 6) = .pointer (some ⟨db, off, none⟩) := hA.oldNone 6 (by kernel_rfl)
          have eg : ev (.tmp 18) = .bool true := hA.val 4 _ 18 rfl (hp ⟨4, .guard⟩ (by simp) rfl) rfl
          refine ⟨_, 18, true, rfl, rfl, eg, ?_⟩
          rw [if_pos rfl]
          have hcc := hA.const
          clear hA hp
          refine Reg.out_value (v := .pointer (some ⟨db, off, none⟩)) ?_ ⟨rfl, hrefl _, hI⟩
          go_simp
        · refine Reg.StepAt.guarded (i := 6) rfl ?_
          intro L ev w hI hk hp hA
          have e19 : ev (.tmp 19) = .pointer (some ⟨db, off, none⟩) := hA.val 5 _ 19 rfl (hp ⟨5, .data⟩ (by simp) rfl) rfl
          have eg : ev (.tmp 18) = .bool true := hA.val 4 _ 18 rfl (hp ⟨4, .guard⟩ (by simp) rfl) rfl
          refine ⟨_, 18, true, rfl, rfl, eg, ?_⟩
          rw [if_pos rfl]
          have hcc := hA.const
          clear hA hp
          refine Reg.out_value (v := .pointer (some ⟨db, off, none⟩)) ?_ ⟨rfl, hrefl _, hI⟩
          go_simp
        · refine Reg.StepAt.guarded (i := 7) rfl ?_
          intro L ev w hI hk hp hA
          have e20 : ev (.tmp 20) = .pointer (some ⟨db, off, none⟩) := hA.val 6 _ 20 rfl (hp ⟨6, .data⟩ (by simp) rfl) rfl
          have eg : ev (.tmp 18) = .bool true := hA.val 4 _ 18 rfl (hp ⟨4, .guard⟩ (by simp) rfl) rfl
          refine ⟨_, 18, true, rfl, rfl, eg, ?_⟩
          rw [if_pos rfl]
          have hcc := hA.const
          clear hA hp
          obtain ⟨f0, f1, f2, f3, f4, f5, f6, f7, f8, f9, f10, f11, fl⟩ := FC.out w hI
          obtain ⟨m0, m1, m2, m3, m4, m5, m6, m7, m8, m9, m10, m11, ml⟩ := FD.out w hI
          refine Reg.out_value (v := .agg #[.int .i64 d.thread, .int .i64 d.kind, .float .f64 d.pri, .int .i64 d.val, .int .i64 d.d0, .int .i64 d.d1, .int .i64 d.beg, .int .i64 d.fin, .bool d.ans.ok, .float .f64 d.ans.pri, .int .i64 d.ans.val, .int .i64 d.ans.n]) ?_ ⟨rfl, hrefl _, hI⟩
          go_simp
        · refine Reg.StepAt.guarded (i := 8) rfl ?_
          intro L ev w hI hk hp hA
          have e2 : ev (.tmp 2) = .pointer (some ⟨xb, 0, none⟩) := hA.oldNone 2 (by kernel_rfl)
          have eg : ev (.tmp 18) = .bool true := hA.val 4 _ 18 rfl (hp ⟨4, .guard⟩ (by simp) rfl) rfl
          refine ⟨_, 18, true, rfl, rfl, eg, ?_⟩
          rw [if_pos rfl]
          have hcc := hA.const
          clear hA hp
          obtain ⟨f0, f1, f2, f3, f4, f5, f6, f7, f8, f9, f10, f11, fl⟩ := FC.out w hI
          obtain ⟨m0, m1, m2, m3, m4, m5, m6, m7, m8, m9, m10, m11, ml⟩ := FD.out w hI
          refine Reg.out_value (v := .agg #[.int .i64 c.thread, .int .i64 c.kind, .float .f64 c.pri, .int .i64 c.val, .int .i64 c.d0, .int .i64 c.d1, .int .i64 c.beg, .int .i64 c.fin, .bool c.ans.ok, .float .f64 c.ans.pri, .int .i64 c.ans.val, .int .i64 c.ans.n]) ?_ ⟨rfl, hrefl _, hI⟩
          go_simp
        · refine Reg.StepAt.guarded (i := 9) rfl ?_
          intro L ev w hI hk hp hA
          have e21 : ev (.tmp 21) = .agg #[.int .i64 d.thread, .int .i64 d.kind, .float .f64 d.pri, .int .i64 d.val, .int .i64 d.d0, .int .i64 d.d1, .int .i64 d.beg, .int .i64 d.fin, .bool d.ans.ok, .float .f64 d.ans.pri, .int .i64 d.ans.val, .int .i64 d.ans.n] := hA.val 7 _ 21 rfl (hp ⟨7, .data⟩ (by simp) rfl) rfl
          have e22 : ev (.tmp 22) = .agg #[.int .i64 c.thread, .int .i64 c.kind, .float .f64 c.pri, .int .i64 c.val, .int .i64 c.d0, .int .i64 c.d1, .int .i64 c.beg, .int .i64 c.fin, .bool c.ans.ok, .float .f64 c.ans.pri, .int .i64 c.ans.val, .int .i64 c.ans.n] := hA.val 8 _ 22 rfl (hp ⟨8, .data⟩ (by simp) rfl) rfl
          have eg : ev (.tmp 18) = .bool true := hA.val 4 _ 18 rfl (hp ⟨4, .chain⟩ (by simp) rfl) rfl
          refine ⟨_, 18, true, rfl, rfl, eg, ?_⟩
          rw [if_pos rfl]
          have hcc := hA.const
          have hcf := hA.func
          clear hA hp
          refine Reg.out_call (f := 124) (args := #[.agg #[.int .i64 d.thread, .int .i64 d.kind, .float .f64 d.pri, .int .i64 d.val, .int .i64 d.d0, .int .i64 d.d1, .int .i64 d.beg, .int .i64 d.fin, .bool d.ans.ok, .float .f64 d.ans.pri, .int .i64 d.ans.val, .int .i64 d.ans.n], .agg #[.int .i64 c.thread, .int .i64 c.kind, .float .f64 c.pri, .int .i64 c.val, .int .i64 c.d0, .int .i64 c.d1, .int .i64 c.beg, .int .i64 c.fin, .bool c.ans.ok, .float .f64 c.ans.pri, .int .i64 c.ans.val, .int .i64 c.ans.n]]) (w0 := w) ?_ ?_
          · go_simp
          refine (hAh.out w).mono ?_
          rintro e w' ⟨rfl, hb'⟩
          exact ⟨_, rfl, rfl, hb', Reg.Keeps.trans hI hb'⟩
        · refine Reg.StepAt.guarded (i := 10) rfl ?_
          intro L ev w hI hk hp hA
          have e23 : ev (.tmp 23) = .bool false := hA.val 9 _ 23 rfl (hp ⟨9, .data⟩ (by simp) rfl) rfl
          have eg : ev (.tmp 18) = .bool true := hA.val 4 _ 18 rfl (hp ⟨4, .guard⟩ (by simp) rfl) rfl
          refine ⟨_, 18, true, rfl, rfl, eg, ?_⟩
          rw [if_pos rfl]
          have hcc := hA.const
          clear hA hp
          refine Reg.out_value (v := .bool true) ?_ ⟨rfl, hrefl _, hI⟩
          go_simp
        · refine Reg.StepAt.plain (i := 11) rfl ?_
          intro L ev w hI hk hp hA
          have e18 : ev (.tmp 18) = .bool true := hA.val 4 _ 18 rfl (hp ⟨4, .data⟩ (by simp) rfl) rfl
          have e24 : ev (.tmp 24) = .bool true := hA.val 10 _ 24 rfl (hp ⟨10, .data⟩ (by simp) rfl) rfl
          have hcc := hA.const
          clear hA hp
          refine Reg.out_value (v := .bool true) ?_ ⟨rfl, hrefl _, hI⟩
          go_simp
        · refine Reg.StepAt.plain (i := 12) rfl ?_
          intro L ev w hI hk hp hA
          have e25 : ev (.tmp 25) = .bool true := hA.val 11 _ 25 rfl (hp ⟨11, .data⟩ (by simp) rfl) rfl
          have hcc := hA.const
          clear hA hp
          refine Reg.out_value (v := .bool true) ?_ ⟨rfl, hrefl _, hI⟩
          go_simp
        · refine Reg.StepAt.guarded (i := 13) rfl ?_
          intro L ev w hI hk hp hA
          have e2 : ev (.tmp 2) = .pointer (some ⟨xb, 0, none⟩) := hA.oldNone 2 (by kernel_rfl)
          have eg : ev (.tmp 26) = .bool true := hA.val 12 _ 26 rfl (hp ⟨12, .guard⟩ (by simp) rfl) rfl
          refine ⟨_, 26, true, rfl, rfl, eg, ?_⟩
          rw [if_neg (by decide)]
          have hcc := hA.const
          clear hA hp
          exact ⟨rfl, hI⟩
        · refine Reg.StepAt.guarded (i := 14) rfl ?_
          intro L ev w hI hk hp hA
          have e27 : (fun v _ => v = undef) (ev (.tmp 27)) w := hA.val 13 _ 27 rfl (hp ⟨13, .data⟩ (by simp) rfl) rfl
          have eg : ev (.tmp 26) = .bool true := hA.val 12 _ 26 rfl (hp ⟨12, .chain⟩ (by simp) rfl) rfl
          refine ⟨_, 26, true, rfl, rfl, eg, ?_⟩
          rw [if_neg (by decide)]
          have hcc := hA.const
          have hcf := hA.func
          clear hA hp
          exact ⟨rfl, hI⟩
        · refine Reg.StepAt.guarded (i := 15) rfl ?_
          intro L ev w hI hk hp hA
          have e28 : (fun v _ => v = undef) (ev (.tmp 28)) w := hA.val 14 _ 28 rfl (hp ⟨14, .data⟩ (by simp) rfl) rfl
          have eg : ev (.tmp 26) = .bool true := hA.val 12 _ 26 rfl (hp ⟨12, .guard⟩ (by simp) rfl) rfl
          refine ⟨_, 26, true, rfl, rfl, eg, ?_⟩
          rw [if_neg (by decide)]
          have hcc := hA.const
          clear hA hp
          exact ⟨rfl, hI⟩
        · refine Reg.StepAt.unreached (i := 16) rfl ?_
          intro L ev w hI hk hp hA
          have e2 : ev (.tmp 2) = .pointer (some ⟨xb, 0, none⟩) := hA.oldNone 2 (by kernel_rfl)
          have eg : ev (.tmp 29) = undef := hA.val 15 _ 29 rfl (hp ⟨15, .guard⟩ (by simp) rfl) rfl
          refine ⟨_, 29, rfl, rfl, eg, ?_⟩
          have hcc := hA.const
          clear hA hp
          exact ⟨rfl, hI⟩
        · refine Reg.StepAt.unreached (i := 17) rfl ?_
          intro L ev w hI hk hp hA
          have e30 : (fun v _ => v = undef) (ev (.tmp 30)) w := hA.val 16 _ 30 rfl (hp ⟨16, .data⟩ (by simp) rfl) rfl
          have eg : ev (.tmp 29) = undef := hA.val 15 _ 29 rfl (hp ⟨15, .guard⟩ (by simp) rfl) rfl
          refine ⟨_, 29, rfl, rfl, eg, ?_⟩
          have hcc := hA.const
          clear hA hp
          exact ⟨rfl, hI⟩
        · refine Reg.StepAt.unreached (i := 18) rfl ?_
          intro L ev w hI hk hp hA
          have e6 : ev (.tmp 6) = .pointer (some ⟨db, off, none⟩) := hA.oldNone 6 (by kernel_rfl)
          have eg : ev (.tmp 29) = undef := hA.val 15 _ 29 rfl (hp ⟨15, .guard⟩ (by simp) rfl) rfl
          refine ⟨_, 29, rfl, rfl, eg, ?_⟩
          have hcc := hA.const
          clear hA hp
          exact ⟨rfl, hI⟩
        · refine Reg.StepAt.unreached (i := 19) rfl ?_
          intro L ev w hI hk hp hA
          have e32 : (fun v _ => v = undef) (ev (.tmp 32)) w := hA.val 18 _ 32 rfl (hp ⟨18, .data⟩ (by simp) rfl) rfl
          have eg : ev (.tmp 29) = undef := hA.val 15 _ 29 rfl (hp ⟨15, .guard⟩ (by simp) rfl) rfl
          refine ⟨_, 29, rfl, rfl, eg, ?_⟩
          have hcc := hA.const
          clear hA hp
          exact ⟨rfl, hI⟩
        · refine Reg.StepAt.unreached (i := 20) rfl ?_
          intro L ev w hI hk hp hA
          have e33 : (fun v _ => v = undef) (ev (.tmp 33)) w := hA.val 19 _ 33 rfl (hp ⟨19, .data⟩ (by simp) rfl) rfl
          have eg : ev (.tmp 29) = undef := hA.val 15 _ 29 rfl (hp ⟨15, .guard⟩ (by simp) rfl) rfl
          refine ⟨_, 29, rfl, rfl, eg, ?_⟩
          have hcc := hA.const
          clear hA hp
          exact ⟨rfl, hI⟩
        · refine Reg.StepAt.unreached (i := 21) rfl ?_
          intro L ev w hI hk hp hA
          have e34 : (fun v _ => v = undef) (ev (.tmp 34)) w := hA.val 20 _ 34 rfl (hp ⟨20, .data⟩ (by simp) rfl) rfl
          have eg : ev (.tmp 29) = undef := hA.val 15 _ 29 rfl (hp ⟨15, .guard⟩ (by simp) rfl) rfl
          refine ⟨_, 29, rfl, rfl, eg, ?_⟩
          have hcc := hA.const
          clear hA hp
          exact ⟨rfl, hI⟩
        · refine Reg.StepAt.unreached (i := 22) rfl ?_
          intro L ev w hI hk hp hA
          have e31 : (fun v _ => v = undef) (ev (.tmp 31)) w := hA.val 17 _ 31 rfl (hp ⟨17, .data⟩ (by simp) rfl) rfl
          have e35 : (fun v _ => v = undef) (ev (.tmp 35)) w := hA.val 21 _ 35 rfl (hp ⟨21, .data⟩ (by simp) rfl) rfl
          have eg : ev (.tmp 29) = undef := hA.val 15 _ 29 rfl (hp ⟨15, .guard⟩ (by simp) rfl) rfl
          refine ⟨_, 29, rfl, rfl, eg, ?_⟩
          have hcc := hA.const
          clear hA hp
          exact ⟨rfl, hI⟩
        · refine Reg.StepAt.guarded (i := 23) rfl ?_
          intro L ev w hI hk hp hA
          have e29 : (fun v _ => v = undef) (ev (.tmp 29)) w := hA.val 15 _ 29 rfl (hp ⟨15, .data⟩ (by simp) rfl) rfl
          have e36 : (fun v _ => v = undef) (ev (.tmp 36)) w := hA.val 22 _ 36 rfl (hp ⟨22, .data⟩ (by simp) rfl) rfl
          have eg : ev (.tmp 26) = .bool true := hA.val 12 _ 26 rfl (hp ⟨12, .guard⟩ (by simp) rfl) rfl
          refine ⟨_, 26, true, rfl, rfl, eg, ?_⟩
          rw [if_neg (by decide)]
          have hcc := hA.const
          clear hA hp
          exact ⟨rfl, hI⟩
        · refine Reg.StepAt.plain (i := 24) rfl ?_
          intro L ev w hI hk hp hA
          have e26 : ev (.tmp 26) = .bool true := hA.val 12 _ 26 rfl (hp ⟨12, .data⟩ (by simp) rfl) rfl
          have e37 : (fun v _ => v = undef) (ev (.tmp 37)) w := hA.val 23 _ 37 rfl (hp ⟨23, .data⟩ (by simp) rfl) rfl
          have hcc := hA.const
          clear hA hp
          refine Reg.out_value (v := .bool true) ?_ ⟨rfl, hrefl _, hI⟩
          go_simp
        intro L act wz hall hI hF
        have g14 : act.eval (.tmp 14) = .int .i64 (k : Int) := hF.val 0 _ 14 rfl (hall 0 (by simp)) rfl
        have g15 : act.eval (.tmp 15) = .pointer (some ⟨xb, 0, none⟩) := hF.val 1 _ 15 rfl (hall 1 (by simp)) rfl
        have g16 : act.eval (.tmp 16) = .int .i64 c.thread := hF.val 2 _ 16 rfl (hall 2 (by simp)) rfl
        have g17 : act.eval (.tmp 17) = .bool true := hF.val 3 _ 17 rfl (hall 3 (by simp)) rfl
        have g18 : act.eval (.tmp 18) = .bool true := hF.val 4 _ 18 rfl (hall 4 (by simp)) rfl
        have g19 : act.eval (.tmp 19) = .pointer (some ⟨db, off, none⟩) := hF.val 5 _ 19 rfl (hall 5 (by simp)) rfl
        have g20 : act.eval (.tmp 20) = .pointer (some ⟨db, off, none⟩) := hF.val 6 _ 20 rfl (hall 6 (by simp)) rfl
        have g21 : act.eval (.tmp 21) = .agg #[.int .i64 d.thread, .int .i64 d.kind, .float .f64 d.pri, .int .i64 d.val, .int .i64 d.d0, .int .i64 d.d1, .int .i64 d.beg, .int .i64 d.fin, .bool d.ans.ok, .float .f64 d.ans.pri, .int .i64 d.ans.val, .int .i64 d.ans.n] := hF.val 7 _ 21 rfl (hall 7 (by simp)) rfl
        have g22 : act.eval (.tmp 22) = .agg #[.int .i64 c.thread, .int .i64 c.kind, .float .f64 c.pri, .int .i64 c.val, .int .i64 c.d0, .int .i64 c.d1, .int .i64 c.beg, .int .i64 c.fin, .bool c.ans.ok, .float .f64 c.ans.pri, .int .i64 c.ans.val, .int .i64 c.ans.n] := hF.val 8 _ 22 rfl (hall 8 (by simp)) rfl
        have g23 : act.eval (.tmp 23) = .bool false := hF.val 9 _ 23 rfl (hall 9 (by simp)) rfl
        have g24 : act.eval (.tmp 24) = .bool true := hF.val 10 _ 24 rfl (hall 10 (by simp)) rfl
        have g25 : act.eval (.tmp 25) = .bool true := hF.val 11 _ 25 rfl (hall 11 (by simp)) rfl
        have g26 : act.eval (.tmp 26) = .bool true := hF.val 12 _ 26 rfl (hall 12 (by simp)) rfl
        have g27 : (fun v _ => v = undef) (act.eval (.tmp 27)) wz := hF.val 13 _ 27 rfl (hall 13 (by simp)) rfl
        have g28 : (fun v _ => v = undef) (act.eval (.tmp 28)) wz := hF.val 14 _ 28 rfl (hall 14 (by simp)) rfl
        have g29 : (fun v _ => v = undef) (act.eval (.tmp 29)) wz := hF.val 15 _ 29 rfl (hall 15 (by simp)) rfl
        have g30 : (fun v _ => v = undef) (act.eval (.tmp 30)) wz := hF.val 16 _ 30 rfl (hall 16 (by simp)) rfl
        have g31 : (fun v _ => v = undef) (act.eval (.tmp 31)) wz := hF.val 17 _ 31 rfl (hall 17 (by simp)) rfl
        have g32 : (fun v _ => v = undef) (act.eval (.tmp 32)) wz := hF.val 18 _ 32 rfl (hall 18 (by simp)) rfl
        have g33 : (fun v _ => v = undef) (act.eval (.tmp 33)) wz := hF.val 19 _ 33 rfl (hall 19 (by simp)) rfl
        have g34 : (fun v _ => v = undef) (act.eval (.tmp 34)) wz := hF.val 20 _ 34 rfl (hall 20 (by simp)) rfl
        have g35 : (fun v _ => v = undef) (act.eval (.tmp 35)) wz := hF.val 21 _ 35 rfl (hall 21 (by simp)) rfl
        have g36 : (fun v _ => v = undef) (act.eval (.tmp 36)) wz := hF.val 22 _ 36 rfl (hall 22 (by simp)) rfl
        have g37 : (fun v _ => v = undef) (act.eval (.tmp 37)) wz := hF.val 23 _ 37 rfl (hall 23 (by simp)) rfl
        have g38 : act.eval (.tmp 38) = .bool true := hF.val 24 _ 38 rfl (hall 24 (by simp)) rfl
        have hact := hF.act [14, 15, 16, 17, 18, 19, 20, 21, 22, 23, 24, 25, 26, 27, 28, 29, 30, 31, 32, 33, 34, 35, 36, 37, 38] (by kernel_rfl)
        clear hF hall
        simp only [List.foldl_cons, List.foldl_nil] at hact
        rw [g14, g15, g16, g17, g18, g19, g20, g21, g22, g23, g24, g25, g26, g38] at hact
        clear g14 g15 g16 g17 g18 g19 g20 g21 g22 g23 g24 g25 g26 g38
        generalize act.eval (.tmp 27) = u27 at hact g27
        generalize act.eval (.tmp 28) = u28 at hact g28
        generalize act.eval (.tmp 29) = u29 at hact g29
        generalize act.eval (.tmp 30) = u30 at hact g30
        generalize act.eval (.tmp 31) = u31 at hact g31
        generalize act.eval (.tmp 32) = u32 at hact g32
        generalize act.eval (.tmp 33) = u33 at hact g33
        generalize act.eval (.tmp 34) = u34 at hact g34
        generalize act.eval (.tmp 35) = u35 at hact g35
        generalize act.eval (.tmp 36) = u36 at hact g36
        generalize act.eval (.tmp 37) = u37 at hact g37
        simp only [List.setIfInBounds_toArray, List.set_cons_succ, List.set_cons_zero] at hact
        subst hact
        have hwz : Below wr.heap.size wr wz := hI
        clear hI
        have HE := hidq (And.intro (HNO.out (by rw [HOK.out]; rw [HTH.out]; rfl)) (HLOW.out wz hwz).2)
        clear hwz FC FD
        go_wp2_with fail
        go_ret
        exact ⟨by rw [HE.out.1]; rfl, HE.out.2⟩
      | true =>
        cases dn with
        | true =>
          go_wp2_with fail
          have hrefl : ∀ w : World, Reg.Keeps w w := Reg.Keeps.refl
          refine Reg.wp_region_props (Reg.ofList (folltttR k xb db off c d q)) Reg.Keeps (fun _ w => Reg.Keeps wr w) (by kernel_rfl) (by kernel_rfl) (Reg.AllKept.at _ (folltttR_kept k xb db off c d q)) hrefl (Reg.Keeps.drewN (Reg.Keeps.refl _) 1) ⟨?_, ?_, ?_, ?_, ?_, ?_, ?_, ?_, ?_, ?_, ?_, ?_, ?_, ?_, ?_, ?_, ?_, ?_, ?_, ?_, ?_, ?_, ?_, ?_, ?_, trivial⟩ ?_
          · refine Reg.StepAt.plain (i := 0) rfl ?_
            intro L ev w hI hk hp hA
            have e5 : ev (.tmp 5) = .int .i64 (k : Int) := hA.oldNone 5 (by kernel_rfl)
            have hcc := hA.const
            clear hA hp
            refine Reg.out_value (v := .int .i64 (k : Int)) ?_ ⟨rfl, hrefl _, hI⟩
            go_simp
          · refine Reg.StepAt.plain (i := 1) rfl ?_
            intro L ev w hI hk hp hA
            have e2 : ev (.tmp 2) = .pointer (some ⟨xb, 0, none⟩) := hA.oldNone 2 (by kernel_rfl)
            have hcc := hA.const
            clear hA hp
            refine Reg.out_value (v := .pointer (some ⟨xb, 0, none⟩)) ?_ ⟨rfl, hrefl _, hI⟩
            go_simp
          · refine Reg.StepAt.plain (i := 2) rfl ?_
            intro L ev w hI hk hp hA
            have e15 : ev (.tmp 15) = .pointer (some ⟨xb, 0, none⟩) := hA.val 1 _ 15 rfl (hp ⟨1, .data⟩ (by simp) rfl) rfl
            have hcc := hA.const
            clear hA hp
            obtain ⟨f0, f1, f2, f3, f4, f5, f6, f7, f8, f9, f10, f11, fl⟩ := FC.out w hI
            obtain ⟨m0, m1, m2, m3, m4, m5, m6, m7, m8, m9, m10, m11, ml⟩ := FD.out w hI
            refine Reg.out_value (v := .int .i64 c.thread) ?_ ⟨rfl, hrefl _, hI⟩
            go_simp
          · refine Reg.StepAt.plain (i := 3) rfl ?_
            intro L ev w hI hk hp hA
            have e14 : ev (.tmp 14) = .int .i64 (k : Int) := hA.val 0 _ 14 rfl (hp ⟨0, .data⟩ (by simp) rfl) rfl
            have e16 : ev (.tmp 16) = .int .i64 c.thread := hA.val 2 _ 16 rfl (hp ⟨2, .data⟩ (by simp) rfl) rfl
            have hcc := hA.const
            clear hA hp
            refine Reg.out_value (v := .bool true) ?_ ⟨rfl, hrefl _, hI⟩
            go_simp
          · refine Reg.StepAt.plain (i := 4) rfl ?_
            intro L ev w hI hk hp hA
            have e17 : ev (.tmp 17) = .bool true := hA.val 3 _ 17 rfl (hp ⟨3, .data⟩ (by simp) rfl) rfl
            have hcc := hA.const
            clear hA hp
            refine Reg.out_value (v := .bool true) ?_ ⟨rfl, hrefl _, hI⟩
            go_simp
          · refine Reg.StepAt.guarded (i := 5) rfl ?_
            intro L ev w hI hk hp hA
            have e6 : ev (.tmp 6) = .pointer (some ⟨db, off, none⟩) := hA.oldNone 6 (by kernel_rfl)
            have eg : ev (.tmp 18) = .bool true := hA.val 4 _ 18 rfl (hp ⟨4, .guard⟩ (by simp) rfl) rfl
            refine ⟨_, 18, true, rfl, rfl, eg, ?_⟩
            rw [if_pos rfl]
            have hcc := hA.const
            clear hA hp
            refine Reg.out_value (v := .pointer (some ⟨db, off, none⟩)) ?_ ⟨rfl, hrefl _, hI⟩
            go_simp
          · refine Reg.StepAt.guarded (i := 6) rfl ?_
            intro L ev w hI hk hp hA
            have e19 : ev (.tmp 19) = .pointer (some ⟨db, off, none⟩) := hA.val 5 _ 19 rfl (hp ⟨5, .data⟩ (by simp) rfl) rfl
            have eg : ev (.tmp 18) = .bool true := hA.val 4 _ 18 rfl (hp ⟨4, .guard⟩ (by simp) rfl) rfl
            refine ⟨_, 18, true, rfl, rfl, eg, ?_⟩
            rw [if_pos rfl]
            have hcc := hA.const
            clear hA hp
            refine Reg.out_value (v := .pointer (some ⟨db, off, none⟩)) ?_ ⟨rfl, hrefl _, hI⟩
            go_simp
          · refine Reg.StepAt.guarded (i := 7) rfl ?_
            intro L ev w hI hk hp hA
            have e20 : ev (.tmp 20) = .pointer (some ⟨db, off, none⟩) := hA.val 6 _ 20 rfl (hp ⟨6, .data⟩ (by simp) rfl) rfl
            have eg : ev (.tmp 18) = .bool true := hA.val 4 _ 18 rfl (hp ⟨4, .guard⟩ (by simp) rfl) rfl
            refine ⟨_, 18, true, rfl, rfl, eg, ?_⟩
            rw [if_pos rfl]
            have hcc := hA.const
            clear hA hp
            obtain ⟨f0, f1, f2, f3, f4, f5, f6, f7, f8, f9, f10, f11, fl⟩ := FC.out w hI
            obtain ⟨m0, m1, m2, m3, m4, m5, m6, m7, m8, m9, m10, m11, ml⟩ := FD.out w hI
            refine Reg.out_value (v := .agg #[.int .i64 d.thread, .int .i64 d.kind, .float .f64 d.pri, .int .i64 d.val, .int .i64 d.d0, .int .i64 d.d1, .int .i64 d.beg, .int .i64 d.fin, .bool d.ans.ok, .float .f64 d.ans.pri, .int .i64 d.ans.val, .int .i64 d.ans.n]) ?_ ⟨rfl, hrefl _, hI⟩
            go_simp
          · refine Reg.StepAt.guarded (i := 8) rfl ?_
            intro L ev w hI hk hp hA
            have e2 : ev (.tmp 2) = .pointer (some ⟨xb, 0, none⟩) := hA.oldNone 2 (by kernel_rfl)
            have eg : ev (.tmp 18) = .bool true := hA.val 4 _ 18 rfl (hp ⟨4, .guard⟩ (by simp) rfl) rfl
            refine ⟨_, 18, true, rfl, rfl, eg, ?_⟩
            rw [if_pos rfl]
            have hcc := hA.const
            clear hA hp
            obtain ⟨f0, f1, f2, f3, f4, f5, f6, f7, f8, f9, f10, f11, fl⟩ := FC.out w hI
            obtain ⟨m0, m1, m2, m3, m4, m5, m6, m7, m8, m9, m10, m11, ml⟩ := FD.out w hI
            refine Reg.out_value (v := .agg #[.int .i64 c.thread, .int .i64 c.kind, .float .f64 c.pri, .int .i64 c.val, .int .i64 c.d0, .int .i64 c.d1, .int .i64 c.beg, .int .i64 c.fin, .bool c.ans.ok, .float .f64 c.ans.pri, .int .i64 c.ans.val, .int .i64 c.ans.n]) ?_ ⟨rfl, hrefl _, hI⟩
            go_simp
          · refine Reg.StepAt.guarded (i := 9) rfl ?_
            intro L ev w hI hk hp hA
            have e21 : ev (.tmp 21) = .agg #[.int .i64 d.thread, .int .i64 d.kind, .float .f64 d.pri, .int .i64 d.val, .int .i64 d.d0, .int .i64 d.d1, .int .i64 d.beg, .int .i64 d.fin, .bool d.ans.ok, .float .f64 d.ans.pri, .int .i64 d.ans.val, .int .i64 d.ans.n] := hA.val 7 _ 21 rfl (hp ⟨7, .data⟩ (by simp) rfl) rfl
            have e22 : ev (.tmp 22) = .agg #[.int .i64 c.thread, .int .i64 c.kind, .float .f64 c.pri, .int .i64 c.val, .int .i64 c.d0, .int .i64 c.d1, .int .i64 c.beg, .int .i64 c.fin, .bool c.ans.ok, .float .f64 c.ans.pri, .int .i64 c.ans.val, .int .i64 c.ans.n] := hA.val 8 _ 22 rfl (hp ⟨8, .data⟩ (by simp) rfl) rfl
            have eg : ev (.tmp 18) = .bool true := hA.val 4 _ 18 rfl (hp ⟨4, .chain⟩ (by simp) rfl) rfl
            refine ⟨_, 18, true, rfl, rfl, eg, ?_⟩
            rw [if_pos rfl]
            have hcc := hA.const
            have hcf := hA.func
            clear hA hp
            refine Reg.out_call (f := 124) (args := #[.agg #[.int .i64 d.thread, .int .i64 d.kind, .float .f64 d.pri, .int .i64 d.val, .int .i64 d.d0, .int .i64 d.d1, .int .i64 d.beg, .int .i64 d.fin, .bool d.ans.ok, .float .f64 d.ans.pri, .int .i64 d.ans.val, .int .i64 d.ans.n], .agg #[.int .i64 c.thread, .int .i64 c.kind, .float .f64 c.pri, .int .i64 c.val, .int .i64 c.d0, .int .i64 c.d1, .int .i64 c.beg, .int .i64 c.fin, .bool c.ans.ok, .float .f64 c.ans.pri, .int .i64 c.ans.val, .int .i64 c.ans.n]]) (w0 := w) ?_ ?_
            · go_simp
            refine (hAh.out w).mono ?_
            rintro e w' ⟨rfl, hb'⟩
            exact ⟨_, rfl, rfl, hb', Reg.Keeps.trans hI hb'⟩
          · refine Reg.StepAt.guarded (i := 10) rfl ?_
            intro L ev w hI hk hp hA
            have e23 : ev (.tmp 23) = .bool true := hA.val 9 _ 23 rfl (hp ⟨9, .data⟩ (by simp) rfl) rfl
            have eg : ev (.tmp 18) = .bool true := hA.val 4 _ 18 rfl (hp ⟨4, .guard⟩ (by simp) rfl) rfl
            refine ⟨_, 18, true, rfl, rfl, eg, ?_⟩
            rw [if_pos rfl]
            have hcc := hA.const
            clear hA hp
            refine Reg.out_value (v := .bool false) ?_ ⟨rfl, hrefl _, hI⟩
            go_simp
          · refine Reg.StepAt.plain (i := 11) rfl ?_
            intro L ev w hI hk hp hA
            have e18 : ev (.tmp 18) = .bool true := hA.val 4 _ 18 rfl (hp ⟨4, .data⟩ (by simp) rfl) rfl
            have e24 : ev (.tmp 24) = .bool false := hA.val 10 _ 24 rfl (hp ⟨10, .data⟩ (by simp) rfl) rfl
            have hcc := hA.const
            clear hA hp
            refine Reg.out_value (v := .bool false) ?_ ⟨rfl, hrefl _, hI⟩
            go_simp
          · refine Reg.StepAt.plain (i := 12) rfl ?_
            intro L ev w hI hk hp hA
            have e25 : ev (.tmp 25) = .bool false := hA.val 11 _ 25 rfl (hp ⟨11, .data⟩ (by simp) rfl) rfl
            have hcc := hA.const
            clear hA hp
            refine Reg.out_value (v := .bool false) ?_ ⟨rfl, hrefl _, hI⟩
            go_simp
          · refine Reg.StepAt.guarded (i := 13) rfl ?_
            intro L ev w hI hk hp hA
            have e2 : ev (.tmp 2) = .pointer (some ⟨xb, 0, none⟩) := hA.oldNone 2 (by kernel_rfl)
            have eg : ev (.tmp 26) = .bool false := hA.val 12 _ 26 rfl (hp ⟨12, .guard⟩ (by simp) rfl) rfl
            refine ⟨_, 26, false, rfl, rfl, eg, ?_⟩
            rw [if_pos rfl]
            have hcc := hA.const
            clear hA hp
            obtain ⟨f0, f1, f2, f3, f4, f5, f6, f7, f8, f9, f10, f11, fl⟩ := FC.out w hI
            obtain ⟨m0, m1, m2, m3, m4, m5, m6, m7, m8, m9, m10, m11, ml⟩ := FD.out w hI
            refine Reg.out_value (v := .agg #[.int .i64 c.thread, .int .i64 c.kind, .float .f64 c.pri, .int .i64 c.val, .int .i64 c.d0, .int .i64 c.d1, .int .i64 c.beg, .int .i64 c.fin, .bool c.ans.ok, .float .f64 c.ans.pri, .int .i64 c.ans.val, .int .i64 c.ans.n]) ?_ ⟨rfl, hrefl _, hI⟩
            go_simp
          · refine Reg.StepAt.guarded (i := 14) rfl ?_
            intro L ev w hI hk hp hA
            have e27 : ev (.tmp 27) = .agg #[.int .i64 c.thread, .int .i64 c.kind, .float .f64 c.pri, .int .i64 c.val, .int .i64 c.d0, .int .i64 c.d1, .int .i64 c.beg, .int .i64 c.fin, .bool c.ans.ok, .float .f64 c.ans.pri, .int .i64 c.ans.val, .int .i64 c.ans.n] := hA.val 13 _ 27 rfl (hp ⟨13, .data⟩ (by simp) rfl) rfl
            have eg : ev (.tmp 26) = .bool false := hA.val 12 _ 26 rfl (hp ⟨12, .chain⟩ (by simp) rfl) rfl
            refine ⟨_, 26, false, rfl, rfl, eg, ?_⟩
            rw [if_pos rfl]
            have hcc := hA.const
            have hcf := hA.func
            clear hA hp
            refine Reg.out_call (f := 107) (args := #[.agg #[.int .i64 c.thread, .int .i64 c.kind, .float .f64 c.pri, .int .i64 c.val, .int .i64 c.d0, .int .i64 c.d1, .int .i64 c.beg, .int .i64 c.fin, .bool c.ans.ok, .float .f64 c.ans.pri, .int .i64 c.ans.val, .int .i64 c.ans.n]]) (w0 := w) ?_ ?_
            · go_simp
            refine (hDn.out w).mono ?_
            rintro e w' ⟨rfl, hb'⟩
            exact ⟨_, rfl, rfl, hb', Reg.Keeps.trans hI hb'⟩
          · refine Reg.StepAt.guarded (i := 15) rfl ?_
            intro L ev w hI hk hp hA
            have e28 : ev (.tmp 28) = .bool true := hA.val 14 _ 28 rfl (hp ⟨14, .data⟩ (by simp) rfl) rfl
            have eg : ev (.tmp 26) = .bool false := hA.val 12 _ 26 rfl (hp ⟨12, .guard⟩ (by simp) rfl) rfl
            refine ⟨_, 26, false, rfl, rfl, eg, ?_⟩
            rw [if_pos rfl]
            have hcc := hA.const
            clear hA hp
            refine Reg.out_value (v := .bool true) ?_ ⟨rfl, hrefl _, hI⟩
            go_simp
          · refine Reg.StepAt.guarded (i := 16) rfl ?_
            intro L ev w hI hk hp hA
            have e2 : ev (.tmp 2) = .pointer (some ⟨xb, 0, none⟩) := hA.oldNone 2 (by kernel_rfl)
            have eg : ev (.tmp 29) = .bool true := hA.val 15 _ 29 rfl (hp ⟨15, .guard⟩ (by simp) rfl) rfl
            refine ⟨_, 29, true, rfl, rfl, eg, ?_⟩
            rw [if_pos rfl]
            have hcc := hA.const
            clear hA hp
            refine Reg.out_value (v := .pointer (some ⟨xb, 7, none⟩)) ?_ ⟨rfl, hrefl _, hI⟩
            go_simp
          · refine Reg.StepAt.guarded (i := 17) rfl ?_
            intro L ev w hI hk hp hA
            have e30 : ev (.tmp 30) = .pointer (some ⟨xb, 7, none⟩) := hA.val 16 _ 30 rfl (hp ⟨16, .data⟩ (by simp) rfl) rfl
            have eg : ev (.tmp 29) = .bool true := hA.val 15 _ 29 rfl (hp ⟨15, .guard⟩ (by simp) rfl) rfl
            refine ⟨_, 29, true, rfl, rfl, eg, ?_⟩
            rw [if_pos rfl]
            have hcc := hA.const
            clear hA hp
            obtain ⟨f0, f1, f2, f3, f4, f5, f6, f7, f8, f9, f10, f11, fl⟩ := FC.out w hI
            obtain ⟨m0, m1, m2, m3, m4, m5, m6, m7, m8, m9, m10, m11, ml⟩ := FD.out w hI
            refine Reg.out_value (v := .int .i64 c.fin) ?_ ⟨rfl, hrefl _, hI⟩
            go_simp
          · refine Reg.StepAt.guarded (i := 18) rfl ?_
            intro L ev w hI hk hp hA
            have e6 : ev (.tmp 6) = .pointer (some ⟨db, off, none⟩) := hA.oldNone 6 (by kernel_rfl)
            have eg : ev (.tmp 29) = .bool true := hA.val 15 _ 29 rfl (hp ⟨15, .guard⟩ (by simp) rfl) rfl
            refine ⟨_, 29, true, rfl, rfl, eg, ?_⟩
            rw [if_pos rfl]
            have hcc := hA.const
            clear hA hp
            refine Reg.out_value (v := .pointer (some ⟨db, off, none⟩)) ?_ ⟨rfl, hrefl _, hI⟩
            go_simp
          · refine Reg.StepAt.guarded (i := 19) rfl ?_
            intro L ev w hI hk hp hA
            have e32 : ev (.tmp 32) = .pointer (some ⟨db, off, none⟩) := hA.val 18 _ 32 rfl (hp ⟨18, .data⟩ (by simp) rfl) rfl
            have eg : ev (.tmp 29) = .bool true := hA.val 15 _ 29 rfl (hp ⟨15, .guard⟩ (by simp) rfl) rfl
            refine ⟨_, 29, true, rfl, rfl, eg, ?_⟩
            rw [if_pos rfl]
            have hcc := hA.const
            clear hA hp
            refine Reg.out_value (v := .pointer (some ⟨db, off, none⟩)) ?_ ⟨rfl, hrefl _, hI⟩
            go_simp
          · refine Reg.StepAt.guarded (i := 20) rfl ?_
            intro L ev w hI hk hp hA
            have e33 : ev (.tmp 33) = .pointer (some ⟨db, off, none⟩) := hA.val 19 _ 33 rfl (hp ⟨19, .data⟩ (by simp) rfl) rfl
            have eg : ev (.tmp 29) = .bool true := hA.val 15 _ 29 rfl (hp ⟨15, .guard⟩ (by simp) rfl) rfl
            refine ⟨_, 29, true, rfl, rfl, eg, ?_⟩
            rw [if_pos rfl]
            have hcc := hA.const
            clear hA hp
            refine Reg.out_value (v := .pointer (some ⟨db, off + 7, none⟩)) ?_ ⟨rfl, hrefl _, hI⟩
            go_simp
          · refine Reg.StepAt.guarded (i := 21) rfl ?_
            intro L ev w hI hk hp hA
            have e34 : ev (.tmp 34) = .pointer (some ⟨db, off + 7, none⟩) := hA.val 20 _ 34 rfl (hp ⟨20, .data⟩ (by simp) rfl) rfl
            have eg : ev (.tmp 29) = .bool true := hA.val 15 _ 29 rfl (hp ⟨15, .guard⟩ (by simp) rfl) rfl
            refine ⟨_, 29, true, rfl, rfl, eg, ?_⟩
            rw [if_pos rfl]
            have hcc := hA.const
            clear hA hp
            obtain ⟨f0, f1, f2, f3, f4, f5, f6, f7, f8, f9, f10, f11, fl⟩ := FC.out w hI
            obtain ⟨m0, m1, m2, m3, m4, m5, m6, m7, m8, m9, m10, m11, ml⟩ := FD.out w hI
            refine Reg.out_value (v := .int .i64 d.fin) ?_ ⟨rfl, hrefl _, hI⟩
            go_simp
          · refine Reg.StepAt.guarded (i := 22) rfl ?_
            intro L ev w hI hk hp hA
            have e31 : ev (.tmp 31) = .int .i64 c.fin := hA.val 17 _ 31 rfl (hp ⟨17, .data⟩ (by simp) rfl) rfl
            have e35 : ev (.tmp 35) = .int .i64 d.fin := hA.val 21 _ 35 rfl (hp ⟨21, .data⟩ (by simp) rfl) rfl
            have eg : ev (.tmp 29) = .bool true := hA.val 15 _ 29 rfl (hp ⟨15, .guard⟩ (by simp) rfl) rfl
            refine ⟨_, 29, true, rfl, rfl, eg, ?_⟩
            rw [if_pos rfl]
            have hcc := hA.const
            clear hA hp
            refine Reg.out_value (v := .bool q) ?_ ⟨rfl, hrefl _, hI⟩
            go_simp
          · refine Reg.StepAt.guarded (i := 23) rfl ?_
            intro L ev w hI hk hp hA
            have e29 : ev (.tmp 29) = .bool true := hA.val 15 _ 29 rfl (hp ⟨15, .data⟩ (by simp) rfl) rfl
            have e36 : ev (.tmp 36) = .bool q := hA.val 22 _ 36 rfl (hp ⟨22, .data⟩ (by simp) rfl) rfl
            have eg : ev (.tmp 26) = .bool false := hA.val 12 _ 26 rfl (hp ⟨12, .guard⟩ (by simp) rfl) rfl
            refine ⟨_, 26, false, rfl, rfl, eg, ?_⟩
            rw [if_pos rfl]
            have hcc := hA.const
            clear hA hp
            refine Reg.out_value (v := .bool q) ?_ ⟨rfl, hrefl _, hI⟩
            go_simp
          · refine Reg.StepAt.plain (i := 24) rfl ?_
            intro L ev w hI hk hp hA
            have e26 : ev (.tmp 26) = .bool false := hA.val 12 _ 26 rfl (hp ⟨12, .data⟩ (by simp) rfl) rfl
            have e37 : ev (.tmp 37) = .bool q := hA.val 23 _ 37 rfl (hp ⟨23, .data⟩ (by simp) rfl) rfl
            have hcc := hA.const
            clear hA hp
            refine Reg.out_value (v := .bool q) ?_ ⟨rfl, hrefl _, hI⟩
            go_simp
          intro L act wz hall hI hF
          have g14 : act.eval (.tmp 14) = .int .i64 (k : Int) := hF.val 0 _ 14 rfl (hall 0 (by simp)) rfl
          have g15 : act.eval (.tmp 15) = .pointer (some ⟨xb, 0, none⟩) := hF.val 1 _ 15 rfl (hall 1 (by simp)) rfl
          have g16 : act.eval (.tmp 16) = .int .i64 c.thread := hF.val 2 _ 16 rfl (hall 2 (by simp)) rfl
          have g17 : act.eval (.tmp 17) = .bool true := hF.val 3 _ 17 rfl (hall 3 (by simp)) rfl
          have g18 : act.eval (.tmp 18) = .bool true := hF.val 4 _ 18 rfl (hall 4 (by simp)) rfl
          have g19 : act.eval (.tmp 19) = .pointer (some ⟨db, off, none⟩) := hF.val 5 _ 19 rfl (hall 5 (by simp)) rfl
          have g20 : act.eval (.tmp 20) = .pointer (some ⟨db, off, none⟩) := hF.val 6 _ 20 rfl (hall 6 (by simp)) rfl
          have g21 : act.eval (.tmp 21) = .agg #[.int .i64 d.thread, .int .i64 d.kind, .float .f64 d.pri, .int .i64 d.val, .int .i64 d.d0, .int .i64 d.d1, .int .i64 d.beg, .int .i64 d.fin, .bool d.ans.ok, .float .f64 d.ans.pri, .int .i64 d.ans.val, .int .i64 d.ans.n] := hF.val 7 _ 21 rfl (hall 7 (by simp)) rfl
          have g22 : act.eval (.tmp 22) = .agg #[.int .i64 c.thread, .int .i64 c.kind, .float .f64 c.pri, .int .i64 c.val, .int .i64 c.d0, .int .i64 c.d1, .int .i64 c.beg, .int .i64 c.fin, .bool c.ans.ok, .float .f64 c.ans.pri, .int .i64 c.ans.val, .int .i64 c.ans.n] := hF.val 8 _ 22 rfl (hall 8 (by simp)) rfl
          have g23 : act.eval (.tmp 23) = .bool true := hF.val 9 _ 23 rfl (hall 9 (by simp)) rfl
          have g24 : act.eval (.tmp 24) = .bool false := hF.val 10 _ 24 rfl (hall 10 (by simp)) rfl
          have g25 : act.eval (.tmp 25) = .bool false := hF.val 11 _ 25 rfl (hall 11 (by simp)) rfl
          have g26 : act.eval (.tmp 26) = .bool false := hF.val 12 _ 26 rfl (hall 12 (by simp)) rfl
          have g27 : act.eval (.tmp 27) = .agg #[.int .i64 c.thread, .int .i64 c.kind, .float .f64 c.pri, .int .i64 c.val, .int .i64 c.d0, .int .i64 c.d1, .int .i64 c.beg, .int .i64 c.fin, .bool c.ans.ok, .float .f64 c.ans.pri, .int .i64 c.ans.val, .int .i64 c.ans.n] := hF.val 13 _ 27 rfl (hall 13 (by simp)) rfl
          have g28 : act.eval (.tmp 28) = .bool true := hF.val 14 _ 28 rfl (hall 14 (by simp)) rfl
          have g29 : act.eval (.tmp 29) = .bool true := hF.val 15 _ 29 rfl (hall 15 (by simp)) rfl
          have g30 : act.eval (.tmp 30) = .pointer (some ⟨xb, 7, none⟩) := hF.val 16 _ 30 rfl (hall 16 (by simp)) rfl
          have g31 : act.eval (.tmp 31) = .int .i64 c.fin := hF.val 17 _ 31 rfl (hall 17 (by simp)) rfl
          have g32 : act.eval (.tmp 32) = .pointer (some ⟨db, off, none⟩) := hF.val 18 _ 32 rfl (hall 18 (by simp)) rfl
          have g33 : act.eval (.tmp 33) = .pointer (some ⟨db, off, none⟩) := hF.val 19 _ 33 rfl (hall 19 (by simp)) rfl
          have g34 : act.eval (.tmp 34) = .pointer (some ⟨db, off + 7, none⟩) := hF.val 20 _ 34 rfl (hall 20 (by simp)) rfl
          have g35 : act.eval (.tmp 35) = .int .i64 d.fin := hF.val 21 _ 35 rfl (hall 21 (by simp)) rfl
          have g36 : act.eval (.tmp 36) = .bool q := hF.val 22 _ 36 rfl (hall 22 (by simp)) rfl
          have g37 : act.eval (.tmp 37) = .bool q := hF.val 23 _ 37 rfl (hall 23 (by simp)) rfl
          have g38 : act.eval (.tmp 38) = .bool q := hF.val 24 _ 38 rfl (hall 24 (by simp)) rfl
          have hact := hF.act [14, 15, 16, 17, 18, 19, 20, 21, 22, 23, 24, 25, 26, 27, 28, 29, 30, 31, 32, 33, 34, 35, 36, 37, 38] (by kernel_rfl)
          clear hF hall
          simp only [List.foldl_cons, List.foldl_nil] at hact
          rw [g14, g15, g16, g17, g18, g19, g20, g21, g22, g23, g24, g25, g26, g27, g28, g29, g30, g31, g32, g33, g34, g35, g36, g37, g38] at hact
          clear g14 g15 g16 g17 g18 g19 g20 g21 g22 g23 g24 g25 g26 g27 g28 g29 g30 g31 g32 g33 g34 g35 g36 g37 g38
          simp only [List.setIfInBounds_toArray, List.set_cons_succ, List.set_cons_zero] at hact
          subst hact
          have hwz : Below wr.heap.size wr wz := hI
          clear hI
          cases q with
          | true =>
            have HE := hidq (And.intro (HNO.out (by rw [HOK.out]; rw [HTH.out]; rfl)) (HLOW.out wz hwz).2)
            clear hwz FC FD
            go_wp2_with fail
            go_ret
            exact ⟨by rw [HE.out.1]; rfl, HE.out.2⟩
          | false =>
            have HE := hidq (And.intro (HNX.out (by rw [HOK.out]; rw [HTH.out]; rfl)) (HLOW.out wz hwz).1)
            clear hwz FC FD
            go_wp2_with fail
            go_roundw
            case rel => exact ⟨k + 1, by go_num, by omega, HE.out.1, HE.out.2⟩
            case measure => simp [intOf]; omega
        | false =>
          go_wp2_with fail
          have hrefl : ∀ w : World, Reg.Keeps w w := Reg.Keeps.refl
          refine Reg.wp_region_props (Reg.ofList (follttfR k xb db off c d)) Reg.Keeps (fun _ w => Reg.Keeps wr w) (by kernel_rfl) (by kernel_rfl) (Reg.AllKept.at _ (follttfR_kept k xb db off c d)) hrefl (Reg.Keeps.drewN (Reg.Keeps.refl _) 1) ⟨?_, ?_, ?_, ?_, ?_, ?_, ?_, ?_, ?_, ?_, ?_, ?_, ?_, ?_, ?_, ?_, ?_, ?_, ?_, ?_, ?_, ?_, ?_, ?_, ?_, trivial⟩ ?_
          · refine Reg.StepAt.plain (i := 0) rfl ?_
            intro L ev w hI hk hp hA
            have e5 : ev (.tmp 5) = .int .i64 (k : Int) := hA.oldNone 5 (by kernel_rfl)
            have hcc := hA.const
            clear hA hp
            refine Reg.out_value (v := .int .i64 (k : Int)) ?_ ⟨rfl, hrefl _, hI⟩
            go_simp
          · refine Reg.StepAt.plain (i := 1) rfl ?_
            intro L ev w hI hk hp hA
            have e2 : ev (.tmp 2) = .pointer (some ⟨xb, 0, none⟩) := hA.oldNone 2 (by kernel_rfl)
            have hcc := hA.const
            clear hA hp
            refine Reg.out_value (v := .pointer (some ⟨xb, 0, none⟩)) ?_ ⟨rfl, hrefl _, hI⟩
            go_simp
          · refine Reg.StepAt.plain (i := 2) rfl ?_
            intro L ev w hI hk hp hA
            have e15 : ev (.tmp 15) = .pointer (some ⟨xb, 0, none⟩) := hA.val 1 _ 15 rfl (hp ⟨1, .data⟩ (by simp) rfl) rfl
            have hcc := hA.const
            clear hA hp
            obtain ⟨f0, f1, f2, f3, f4, f5, f6, f7, f8, f9, f10, f11, fl⟩ := FC.out w hI
            obtain ⟨m0, m1, m2, m3, m4, m5, m6, m7, m8, m9, m10, m11, ml⟩ := FD.out w hI
            refine Reg.out_value (v := .int .i64 c.thread) ?_ ⟨rfl, hrefl _, hI⟩
            go_simp
          · refine Reg.StepAt.plain (i := 3) rfl ?_
            intro L ev w hI hk hp hA
            have e14 : ev (.tmp 14) = .int .i64 (k : Int) := hA.val 0 _ 14 rfl (hp ⟨0, .data⟩ (by simp) rfl) rfl
            have e16 : ev (.tmp 16) = .int .i64 c.thread := hA.val 2 _ 16 rfl (hp ⟨2, .data⟩ (by simp) rfl) rfl
            have hcc := hA.const
            clear hA hp
            refine Reg.out_value (v := .bool true) ?_ ⟨rfl, hrefl _, hI⟩
            go_simp
          · refine Reg.StepAt.plain (i := 4) rfl ?_
            intro L ev w hI hk hp hA
            have e17 : ev (.tmp 17) = .bool true := hA.val 3 _ 17 rfl (hp ⟨3, .data⟩ (by simp) rfl) rfl
            have hcc := hA.const
            clear hA hp
            refine Reg.out_value (v := .bool true) ?_ ⟨rfl, hrefl _, hI⟩
            go_simp
          · refine Reg.StepAt.guarded (i := 5) rfl ?_
            intro L ev w hI hk hp hA
            have e6 : ev (.tmp 6) = .pointer (some ⟨db, off, none⟩) := hA.oldNone 6 (by kernel_rfl)
            have eg : ev (.tmp 18) = .bool true := hA.val 4 _ 18 rfl (hp ⟨4, .guard⟩ (by simp) rfl) rfl
            refine ⟨_, 18, true, rfl, rfl, eg, ?_⟩
            rw [if_pos rfl]
            have hcc := hA.const
            clear hA hp
            refine Reg.out_value (v := .pointer (some ⟨db, off, none⟩)) ?_ ⟨rfl, hrefl _, hI⟩
            go_simp
          · refine Reg.StepAt.guarded (i := 6) rfl ?_
            intro L ev w hI hk hp hA
            have e19 : ev (.tmp 19) = .pointer (some ⟨db, off, none⟩) := hA.val 5 _ 19 rfl (hp ⟨5, .data⟩ (by simp) rfl) rfl
            have eg : ev (.tmp 18) = .bool true := hA.val 4 _ 18 rfl (hp ⟨4, .guard⟩ (by simp) rfl) rfl
            refine ⟨_, 18, true, rfl, rfl, eg, ?_⟩
            rw [if_pos rfl]
            have hcc := hA.const
            clear hA hp
            refine Reg.out_value (v := .pointer (some ⟨db, off, none⟩)) ?_ ⟨rfl, hrefl _, hI⟩
            go_simp
          · refine Reg.StepAt.guarded (i := 7) rfl ?_
            intro L ev w hI hk hp hA
            have e20 : ev (.tmp 20) = .pointer (some ⟨db, off, none⟩) := hA.val 6 _ 20 rfl (hp ⟨6, .data⟩ (by simp) rfl) rfl
            have eg : ev (.tmp 18) = .bool true := hA.val 4 _ 18 rfl (hp ⟨4, .guard⟩ (by simp) rfl) rfl
            refine ⟨_, 18, true, rfl, rfl, eg, ?_⟩
            rw [if_pos rfl]
            have hcc := hA.const
            clear hA hp
            obtain ⟨f0, f1, f2, f3, f4, f5, f6, f7, f8, f9, f10, f11, fl⟩ := FC.out w hI
            obtain ⟨m0, m1, m2, m3, m4, m5, m6, m7, m8, m9, m10, m11, ml⟩ := FD.out w hI
            refine Reg.out_value (v := .agg #[.int .i64 d.thread, .int .i64 d.kind, .float .f64 d.pri, .int .i64 d.val, .int .i64 d.d0, .int .i64 d.d1, .int .i64 d.beg, .int .i64 d.fin, .bool d.ans.ok, .float .f64 d.ans.pri, .int .i64 d.ans.val, .int .i64 d.ans.n]) ?_ ⟨rfl, hrefl _, hI⟩
            go_simp
          · refine Reg.StepAt.guarded (i := 8) rfl ?_
            intro L ev w hI hk hp hA
            have e2 : ev (.tmp 2) = .pointer (some ⟨xb, 0, none⟩) := hA.oldNone 2 (by kernel_rfl)
            have eg : ev (.tmp 18) = .bool true := hA.val 4 _ 18 rfl (hp ⟨4, .guard⟩ (by simp) rfl) rfl
            refine ⟨_, 18, true, rfl, rfl, eg, ?_⟩
            rw [if_pos rfl]
            have hcc := hA.const
            clear hA hp
            obtain ⟨f0, f1, f2, f3, f4, f5, f6, f7, f8, f9, f10, f11, fl⟩ := FC.out w hI
            obtain ⟨m0, m1, m2, m3, m4, m5, m6, m7, m8, m9, m10, m11, ml⟩ := FD.out w hI
            refine Reg.out_value (v := .agg #[.int .i64 c.thread, .int .i64 c.kind, .float .f64 c.pri, .int .i64 c.val, .int .i64 c.d0, .int .i64 c.d1, .int .i64 c.beg, .int .i64 c.fin, .bool c.ans.ok, .float .f64 c.ans.pri, .int .i64 c.ans.val, .int .i64 c.ans.n]) ?_ ⟨rfl, hrefl _, hI⟩
            go_simp
          · refine Reg.StepAt.guarded (i := 9) rfl ?_
            intro L ev w hI hk hp hA
            have e21 : ev (.tmp 21) = .agg #[.int .i64 d.thread, .int .i64 d.kind, .float .f64 d.pri, .int .i64 d.val, .int .i64 d.d0, .int .i64 d.d1, .int .i64 d.beg, .int .i64 d.fin, .bool d.ans.ok, .float .f64 d.ans.pri, .int .i64 d.ans.val, .int .i64 d.ans.n] := hA.val 7 _ 21 rfl (hp ⟨7, .data⟩ (by simp) rfl) rfl
            have e22 : ev (.tmp 22) = .agg #[.int .i64 c.thread, .int .i64 c.kind, .float .f64 c.pri, .int .i64 c.val, .int .i64 c.d0, .int .i64 c.d1, .int .i64 c.beg, .int .i64 c.fin, .bool c.ans.ok, .float .f64 c.ans.pri, .int .i64 c.ans.val, .int .i64 c.ans.n] := hA.val 8 _ 22 rfl (hp ⟨8, .data⟩ (by simp) rfl) rfl
            have eg : ev (.tmp 18) = .bool true := hA.val 4 _ 18 rfl (hp ⟨4, .chain⟩ (by simp) rfl) rfl
            refine ⟨_, 18, true, rfl, rfl, eg, ?_⟩
            rw [if_pos rfl]
            have hcc := hA.const
            have hcf := hA.func
            clear hA hp
            refine Reg.out_call (f := 124) (args := #[.agg #[.int .i64 d.thread, .int .i64 d.kind, .float .f64 d.pri, .int .i64 d.val, .int .i64 d.d0, .int .i64 d.d1, .int .i64 d.beg, .int .i64 d.fin, .bool d.ans.ok, .float .f64 d.ans.pri, .int .i64 d.ans.val, .int .i64 d.ans.n], .agg #[.int .i64 c.thread, .int .i64 c.kind, .float .f64 c.pri, .int .i64 c.val, .int .i64 c.d0, .int .i64 c.d1, .int .i64 c.beg, .int .i64 c.fin, .bool c.ans.ok, .float .f64 c.ans.pri, .int .i64 c.ans.val, .int .i64 c.ans.n]]) (w0 := w) ?_ ?_
            · go_simp
            refine (hAh.out w).mono ?_
            rintro e w' ⟨rfl, hb'⟩
            exact ⟨_, rfl, rfl, hb', Reg.Keeps.trans hI hb'⟩
          · refine Reg.StepAt.guarded (i := 10) rfl ?_
            intro L ev w hI hk hp hA
            have e23 : ev (.tmp 23) = .bool true := hA.val 9 _ 23 rfl (hp ⟨9, .data⟩ (by simp) rfl) rfl
            have eg : ev (.tmp 18) = .bool true := hA.val 4 _ 18 rfl (hp ⟨4, .guard⟩ (by simp) rfl) rfl
            refine ⟨_, 18, true, rfl, rfl, eg, ?_⟩
            rw [if_pos rfl]
            have hcc := hA.const
            clear hA hp
            refine Reg.out_value (v := .bool false) ?_ ⟨rfl, hrefl _, hI⟩
            go_simp
          · refine Reg.StepAt.plain (i := 11) rfl ?_
            intro L ev w hI hk hp hA
            have e18 : ev (.tmp 18) = .bool true := hA.val 4 _ 18 rfl (hp ⟨4, .data⟩ (by simp) rfl) rfl
            have e24 : ev (.tmp 24) = .bool false := hA.val 10 _ 24 rfl (hp ⟨10, .data⟩ (by simp) rfl) rfl
            have hcc := hA.const
            clear hA hp
            refine Reg.out_value (v := .bool false) ?_ ⟨rfl, hrefl _, hI⟩
            go_simp
          · refine Reg.StepAt.plain (i := 12) rfl ?_
            intro L ev w hI hk hp hA
            have e25 : ev (.tmp 25) = .bool false := hA.val 11 _ 25 rfl (hp ⟨11, .data⟩ (by simp) rfl) rfl
            have hcc := hA.const
            clear hA hp
            refine Reg.out_value (v := .bool false) ?_ ⟨rfl, hrefl _, hI⟩
            go_simp
          · refine Reg.StepAt.guarded (i := 13) rfl ?_
            intro L ev w hI hk hp hA
            have e2 : ev (.tmp 2) = .pointer (some ⟨xb, 0, none⟩) := hA.oldNone 2 (by kernel_rfl)
            have eg : ev (.tmp 26) = .bool false := hA.val 12 _ 26 rfl (hp ⟨12, .guard⟩ (by simp) rfl) rfl
            refine ⟨_, 26, false, rfl, rfl, eg, ?_⟩
            rw [if_pos rfl]
            have hcc := hA.const
            clear hA hp
            obtain ⟨f0, f1, f2, f3, f4, f5, f6, f7, f8, f9, f10, f11, fl⟩ := FC.out w hI
            obtain ⟨m0, m1, m2, m3, m4, m5, m6, m7, m8, m9, m10, m11, ml⟩ := FD.out w hI
            refine Reg.out_value (v := .agg #[.int .i64 c.thread, .int .i64 c.kind, .float .f64 c.pri, .int .i64 c.val, .int .i64 c.d0, .int .i64 c.d1, .int .i64 c.beg, .int .i64 c.fin, .bool c.ans.ok, .float .f64 c.ans.pri, .int .i64 c.ans.val, .int .i64 c.ans.n]) ?_ ⟨rfl, hrefl _, hI⟩
            go_simp
          · refine Reg.StepAt.guarded (i := 14) rfl ?_
            intro L ev w hI hk hp hA
            have e27 : ev (.tmp 27) = .agg #[.int .i64 c.thread, .int .i64 c.kind, .float .f64 c.pri, .int .i64 c.val, .int .i64 c.d0, .int .i64 c.d1, .int .i64 c.beg, .int .i64 c.fin, .bool c.ans.ok, .float .f64 c.ans.pri, .int .i64 c.ans.val, .int .i64 c.ans.n] := hA.val 13 _ 27 rfl (hp ⟨13, .data⟩ (by simp) rfl) rfl
            have eg : ev (.tmp 26) = .bool false := hA.val 12 _ 26 rfl (hp ⟨12, .chain⟩ (by simp) rfl) rfl
            refine ⟨_, 26, false, rfl, rfl, eg, ?_⟩
            rw [if_pos rfl]
            have hcc := hA.const
            have hcf := hA.func
            clear hA hp
            refine Reg.out_call (f := 107) (args := #[.agg #[.int .i64 c.thread, .int .i64 c.kind, .float .f64 c.pri, .int .i64 c.val, .int .i64 c.d0, .int .i64 c.d1, .int .i64 c.beg, .int .i64 c.fin, .bool c.ans.ok, .float .f64 c.ans.pri, .int .i64 c.ans.val, .int .i64 c.ans.n]]) (w0 := w) ?_ ?_
            · go_simp
            refine (hDn.out w).mono ?_
            rintro e w' ⟨rfl, hb'⟩
            exact ⟨_, rfl, rfl, hb', Reg.Keeps.trans hI hb'⟩
          · refine Reg.StepAt.guarded (i := 15) rfl ?_
            intro L ev w hI hk hp hA
            have e28 : ev (.tmp 28) = .bool false := hA.val 14 _ 28 rfl (hp ⟨14, .data⟩ (by simp) rfl) rfl
            have eg : ev (.tmp 26) = .bool false := hA.val 12 _ 26 rfl (hp ⟨12, .guard⟩ (by simp) rfl) rfl
            refine ⟨_, 26, false, rfl, rfl, eg, ?_⟩
            rw [if_pos rfl]
            have hcc := hA.const
            clear hA hp
            refine Reg.out_value (v := .bool false) ?_ ⟨rfl, hrefl _, hI⟩
            go_simp
          · refine Reg.StepAt.guarded (i := 16) rfl ?_
            intro L ev w hI hk hp hA
            have e2 : ev (.tmp 2) = .pointer (some ⟨xb, 0, none⟩) := hA.oldNone 2 (by kernel_rfl)
            have eg : ev (.tmp 29) = .bool false := hA.val 15 _ 29 rfl (hp ⟨15, .guard⟩ (by simp) rfl) rfl
            refine ⟨_, 29, false, rfl, rfl, eg, ?_⟩
            rw [if_neg (by decide)]
            have hcc := hA.const
            clear hA hp
            exact ⟨rfl, hI⟩
          · refine Reg.StepAt.guarded (i := 17) rfl ?_
            intro L ev w hI hk hp hA
            have e30 : (fun v _ => v = undef) (ev (.tmp 30)) w := hA.val 16 _ 30 rfl (hp ⟨16, .data⟩ (by simp) rfl) rfl
            have eg : ev (.tmp 29) = .bool false := hA.val 15 _ 29 rfl (hp ⟨15, .guard⟩ (by simp) rfl) rfl
            refine ⟨_, 29, false, rfl, rfl, eg, ?_⟩
            rw [if_neg (by decide)]
            have hcc := hA.const
            clear hA hp
            exact ⟨rfl, hI⟩
          · refine Reg.StepAt.guarded (i := 18) rfl ?_
            intro L ev w hI hk hp hA
            have e6 : ev (.tmp 6) = .pointer (some ⟨db, off, none⟩) := hA.oldNone 6 (by kernel_rfl)
            have eg : ev (.tmp 29) = .bool false := hA.val 15 _ 29 rfl (hp ⟨15, .guard⟩ (by simp) rfl) rfl
            refine ⟨_, 29, false, rfl, rfl, eg, ?_⟩
            rw [if_neg (by decide)]
            have hcc := hA.const
            clear hA hp
            exact ⟨rfl, hI⟩
          · refine Reg.StepAt.guarded (i := 19) rfl ?_
            intro L ev w hI hk hp hA
            have e32 : (fun v _ => v = undef) (ev (.tmp 32)) w := hA.val 18 _ 32 rfl (hp ⟨18, .data⟩ (by simp) rfl) rfl
            have eg : ev (.tmp 29) = .bool false := hA.val 15 _ 29 rfl (hp ⟨15, .guard⟩ (by simp) rfl) rfl
            refine ⟨_, 29, false, rfl, rfl, eg, ?_⟩
            rw [if_neg (by decide)]
            have hcc := hA.const
            clear hA hp
            exact ⟨rfl, hI⟩
          · refine Reg.StepAt.guarded (i := 20) rfl ?_
            intro L ev w hI hk hp hA
            have e33 : (fun v _ => v = undef) (ev (.tmp 33)) w := hA.val 19 _ 33 rfl (hp ⟨19, .data⟩ (by simp) rfl) rfl
            have eg : ev (.tmp 29) = .bool false := hA.val 15 _ 29 rfl (hp ⟨15, .guard⟩ (by simp) rfl) rfl
            refine ⟨_, 29, false, rfl, rfl, eg, ?_⟩
            rw [if_neg (by decide)]
            have hcc := hA.const
            clear hA hp
            exact ⟨rfl, hI⟩
          · refine Reg.StepAt.guarded (i := 21) rfl ?_
            intro L ev w hI hk hp hA
            have e34 : (fun v _ => v = undef) (ev (.tmp 34)) w := hA.val 20 _ 34 rfl (hp ⟨20, .data⟩ (by simp) rfl) rfl
            have eg : ev (.tmp 29) = .bool false := hA.val 15 _ 29 rfl (hp ⟨15, .guard⟩ (by simp) rfl) rfl
            refine ⟨_, 29, false, rfl, rfl, eg, ?_⟩
            rw [if_neg (by decide)]
            have hcc := hA.const
            clear hA hp
            exact ⟨rfl, hI⟩
          · refine Reg.StepAt.guarded (i := 22) rfl ?_
            intro L ev w hI hk hp hA
            have e31 : (fun v _ => v = undef) (ev (.tmp 31)) w := hA.val 17 _ 31 rfl (hp ⟨17, .data⟩ (by simp) rfl) rfl
            have e35 : (fun v _ => v = undef) (ev (.tmp 35)) w := hA.val 21 _ 35 rfl (hp ⟨21, .data⟩ (by simp) rfl) rfl
            have eg : ev (.tmp 29) = .bool false := hA.val 15 _ 29 rfl (hp ⟨15, .guard⟩ (by simp) rfl) rfl
            refine ⟨_, 29, false, rfl, rfl, eg, ?_⟩
            rw [if_neg (by decide)]
            have hcc := hA.const
            clear hA hp
            exact ⟨rfl, hI⟩
          · refine Reg.StepAt.guarded (i := 23) rfl ?_
            intro L ev w hI hk hp hA
            have e29 : ev (.tmp 29) = .bool false := hA.val 15 _ 29 rfl (hp ⟨15, .data⟩ (by simp) rfl) rfl
            have e36 : (fun v _ => v = undef) (ev (.tmp 36)) w := hA.val 22 _ 36 rfl (hp ⟨22, .data⟩ (by simp) rfl) rfl
            have eg : ev (.tmp 26) = .bool false := hA.val 12 _ 26 rfl (hp ⟨12, .guard⟩ (by simp) rfl) rfl
            refine ⟨_, 26, false, rfl, rfl, eg, ?_⟩
            rw [if_pos rfl]
            have hcc := hA.const
            clear hA hp
            refine Reg.out_value (v := .bool false) ?_ ⟨rfl, hrefl _, hI⟩
            go_simp
          · refine Reg.StepAt.plain (i := 24) rfl ?_
            intro L ev w hI hk hp hA
            have e26 : ev (.tmp 26) = .bool false := hA.val 12 _ 26 rfl (hp ⟨12, .data⟩ (by simp) rfl) rfl
            have e37 : ev (.tmp 37) = .bool false := hA.val 23 _ 37 rfl (hp ⟨23, .data⟩ (by simp) rfl) rfl
            have hcc := hA.const
            clear hA hp
            refine Reg.out_value (v := .bool false) ?_ ⟨rfl, hrefl _, hI⟩
            go_simp
          intro L act wz hall hI hF
          have g14 : act.eval (.tmp 14) = .int .i64 (k : Int) := hF.val 0 _ 14 rfl (hall 0 (by simp)) rfl
          have g15 : act.eval (.tmp 15) = .pointer (some ⟨xb, 0, none⟩) := hF.val 1 _ 15 rfl (hall 1 (by simp)) rfl
          have g16 : act.eval (.tmp 16) = .int .i64 c.thread := hF.val 2 _ 16 rfl (hall 2 (by simp)) rfl
          have g17 : act.eval (.tmp 17) = .bool true := hF.val 3 _ 17 rfl (hall 3 (by simp)) rfl
          have g18 : act.eval (.tmp 18) = .bool true := hF.val 4 _ 18 rfl (hall 4 (by simp)) rfl
          have g19 : act.eval (.tmp 19) = .pointer (some ⟨db, off, none⟩) := hF.val 5 _ 19 rfl (hall 5 (by simp)) rfl
          have g20 : act.eval (.tmp 20) = .pointer (some ⟨db, off, none⟩) := hF.val 6 _ 20 rfl (hall 6 (by simp)) rfl
          have g21 : act.eval (.tmp 21) = .agg #[.int .i64 d.thread, .int .i64 d.kind, .float .f64 d.pri, .int .i64 d.val, .int .i64 d.d0, .int .i64 d.d1, .int .i64 d.beg, .int .i64 d.fin, .bool d.ans.ok, .float .f64 d.ans.pri, .int .i64 d.ans.val, .int .i64 d.ans.n] := hF.val 7 _ 21 rfl (hall 7 (by simp)) rfl
          have g22 : act.eval (.tmp 22) = .agg #[.int .i64 c.thread, .int .i64 c.kind, .float .f64 c.pri, .int .i64 c.val, .int .i64 c.d0, .int .i64 c.d1, .int .i64 c.beg, .int .i64 c.fin, .bool c.ans.ok, .float .f64 c.ans.pri, .int .i64 c.ans.val, .int .i64 c.ans.n] := hF.val 8 _ 22 rfl (hall 8 (by simp)) rfl
          have g23 : act.eval (.tmp 23) = .bool true := hF.val 9 _ 23 rfl (hall 9 (by simp)) rfl
          have g24 : act.eval (.tmp 24) = .bool false := hF.val 10 _ 24 rfl (hall 10 (by simp)) rfl
          have g25 : act.eval (.tmp 25) = .bool false := hF.val 11 _ 25 rfl (hall 11 (by simp)) rfl
          have g26 : act.eval (.tmp 26) = .bool false := hF.val 12 _ 26 rfl (hall 12 (by simp)) rfl
          have g27 : act.eval (.tmp 27) = .agg #[.int .i64 c.thread, .int .i64 c.kind, .float .f64 c.pri, .int .i64 c.val, .int .i64 c.d0, .int .i64 c.d1, .int .i64 c.beg, .int .i64 c.fin, .bool c.ans.ok, .float .f64 c.ans.pri, .int .i64 c.ans.val, .int .i64 c.ans.n] := hF.val 13 _ 27 rfl (hall 13 (by simp)) rfl
          have g28 : act.eval (.tmp 28) = .bool false := hF.val 14 _ 28 rfl (hall 14 (by simp)) rfl
          have g29 : act.eval (.tmp 29) = .bool false := hF.val 15 _ 29 rfl (hall 15 (by simp)) rfl
          have g30 : (fun v _ => v = undef) (act.eval (.tmp 30)) wz := hF.val 16 _ 30 rfl (hall 16 (by simp)) rfl
          have g31 : (fun v _ => v = undef) (act.eval (.tmp 31)) wz := hF.val 17 _ 31 rfl (hall 17 (by simp)) rfl
          have g32 : (fun v _ => v = undef) (act.eval (.tmp 32)) wz := hF.val 18 _ 32 rfl (hall 18 (by simp)) rfl
          have g33 : (fun v _ => v = undef) (act.eval (.tmp 33)) wz := hF.val 19 _ 33 rfl (hall 19 (by simp)) rfl
          have g34 : (fun v _ => v = undef) (act.eval (.tmp 34)) wz := hF.val 20 _ 34 rfl (hall 20 (by simp)) rfl
          have g35 : (fun v _ => v = undef) (act.eval (.tmp 35)) wz := hF.val 21 _ 35 rfl (hall 21 (by simp)) rfl
          have g36 : (fun v _ => v = undef) (act.eval (.tmp 36)) wz := hF.val 22 _ 36 rfl (hall 22 (by simp)) rfl
          have g37 : act.eval (.tmp 37) = .bool false := hF.val 23 _ 37 rfl (hall 23 (by simp)) rfl
          have g38 : act.eval (.tmp 38) = .bool false := hF.val 24 _ 38 rfl (hall 24 (by simp)) rfl
          have hact := hF.act [14, 15, 16, 17, 18, 19, 20, 21, 22, 23, 24, 25, 26, 27, 28, 29, 30, 31, 32, 33, 34, 35, 36, 37, 38] (by kernel_rfl)
          clear hF hall
          simp only [List.foldl_cons, List.foldl_nil] at hact
          rw [g14, g15, g16, g17, g18, g19, g20, g21, g22, g23, g24, g25, g26, g27, g28, g29, g37, g38] at hact
          clear g14 g15 g16 g17 g18 g19 g20 g21 g22 g23 g24 g25 g26 g27 g28 g29 g37 g38
          generalize act.eval (.tmp 30) = u30 at hact g30
          generalize act.eval (.tmp 31) = u31 at hact g31
          generalize act.eval (.tmp 32) = u32 at hact g32
          generalize act.eval (.tmp 33) = u33 at hact g33
          generalize act.eval (.tmp 34) = u34 at hact g34
          generalize act.eval (.tmp 35) = u35 at hact g35
          generalize act.eval (.tmp 36) = u36 at hact g36
          simp only [List.setIfInBounds_toArray, List.set_cons_succ, List.set_cons_zero] at hact
          subst hact
          have hwz : Below wr.heap.size wr wz := hI
          clear hI
          have HE := hidq (And.intro (HNX.out (by rw [HOK.out]; rw [HTH.out]; rfl)) (HLOW.out wz hwz).1)
          clear hwz FC FD
          go_wp2_with fail
          go_roundw
          case rel => exact ⟨k + 1, by go_num, by omega, HE.out.1, HE.out.2⟩
          case measure => simp [intOf]; omega
    · have hteq : ((k : Int) == c.thread) = false := by simpa using hth
      have HTH := hidq (show decide ((k : Int) = c.thread) = false from decide_eq_false hth)
      clear hth
      cases dn with
      | true =>
        go_wp2_with fail
        have hrefl : ∀ w : World, Reg.Keeps w w := Reg.Keeps.refl
        refine Reg.wp_region_props (Reg.ofList (follftR k xb db off c d q)) Reg.Keeps (fun _ w => Reg.Keeps wr w) (by kernel_rfl) (by kernel_rfl) (Reg.AllKept.at _ (follftR_kept k xb db off c d q)) hrefl (Reg.Keeps.drewN (Reg.Keeps.refl _) 1) ⟨?_, ?_, ?_, ?_, ?_, ?_, ?_, ?_, ?_, ?_, ?_, ?_, ?_, ?_, ?_, ?_, ?_, ?_, ?_, ?_, ?_, ?_, ?_, ?_, ?_, trivial⟩ ?_
        · refine Reg.StepAt.plain (i := 0) rfl ?_
          intro L ev w hI hk hp hA
          have e5 : ev (.tmp 5) = .int .i64 (k : Int) := hA.oldNone 5 (by kernel_rfl)
          have hcc := hA.const
          clear hA hp
          refine Reg.out_value (v := .int .i64 (k : Int)) ?_ ⟨rfl, hrefl _, hI⟩
          go_simp
        · refine Reg.StepAt.plain (i := 1) rfl ?_
          intro L ev w hI hk hp hA
          have e2 : ev (.tmp 2) = .pointer (some ⟨xb, 0, none⟩) := hA.oldNone 2 (by kernel_rfl)
          have hcc := hA.const
          clear hA hp
          refine Reg.out_value (v := .pointer (some ⟨xb, 0, none⟩)) ?_ ⟨rfl, hrefl _, hI⟩
          go_simp
        · refine Reg.StepAt.plain (i := 2) rfl ?_
          intro L ev w hI hk hp hA
          have e15 : ev (.tmp 15) = .pointer (some ⟨xb, 0, none⟩) := hA.val 1 _ 15 rfl (hp ⟨1, .data⟩ (by simp) rfl) rfl
          have hcc := hA.const
          clear hA hp
          obtain ⟨f0, f1, f2, f3, f4, f5, f6, f7, f8, f9, f10, f11, fl⟩ := FC.out w hI
          obtain ⟨m0, m1, m2, m3, m4, m5, m6, m7, m8, m9, m10, m11, ml⟩ := FD.out w hI
          refine Reg.out_value (v := .int .i64 c.thread) ?_ ⟨rfl, hrefl _, hI⟩
          go_simp
        · refine Reg.StepAt.plain (i := 3) rfl ?_
          intro L ev w hI hk hp hA
          have e14 : ev (.tmp 14) = .int .i64 (k : Int) := hA.val 0 _ 14 rfl (hp ⟨0, .data⟩ (by simp) rfl) rfl
          have e16 : ev (.tmp 16) = .int .i64 c.thread := hA.val 2 _ 16 rfl (hp ⟨2, .data⟩ (by simp) rfl) rfl
          have hcc := hA.const
          clear hA hp
          refine Reg.out_value (v := .bool false) ?_ ⟨rfl, hrefl _, hI⟩
          go_simp
        · refine Reg.StepAt.plain (i := 4) rfl ?_
          intro L ev w hI hk hp hA
          have e17 : ev (.tmp 17) = .bool false := hA.val 3 _ 17 rfl (hp ⟨3, .data⟩ (by simp) rfl) rfl
          have hcc := hA.const
          clear hA hp
          refine Reg.out_value (v := .bool false) ?_ ⟨rfl, hrefl _, hI⟩
          go_simp
        · refine Reg.StepAt.guarded (i := 5) rfl ?_
          intro L ev w hI hk hp hA
          have e6 : ev (.tmp 6) = .pointer (some ⟨db, off, none⟩) := hA.oldNone 6 (by kernel_rfl)
          have eg : ev (.tmp 18) = .bool false := hA.val 4 _ 18 rfl (hp ⟨4, .guard⟩ (by simp) rfl) rfl
          refine ⟨_, 18, false, rfl, rfl, eg, ?_⟩
          rw [if_neg (by decide)]
          have hcc := hA.const
          clear hA hp
          exact ⟨rfl, hI⟩
        · refine Reg.StepAt.guarded (i := 6) rfl ?_
          intro L ev w hI hk hp hA
          have e19 : (fun v _ => v = undef) (ev (.tmp 19)) w := hA.val 5 _ 19 rfl (hp ⟨5, .data⟩ (by simp) rfl) rfl
          have eg : ev (.tmp 18) = .bool false := hA.val 4 _ 18 rfl (hp ⟨4, .guard⟩ (by simp) rfl) rfl
          refine ⟨_, 18, false, rfl, rfl, eg, ?_⟩
          rw [if_neg (by decide)]
          have hcc := hA.const
          clear hA hp
          exact ⟨rfl, hI⟩
        · refine Reg.StepAt.guarded (i := 7) rfl ?_
          intro L ev w hI hk hp hA
          have e20 : (fun v _ => v = undef) (ev (.tmp 20)) w := hA.val 6 _ 20 rfl (hp ⟨6, .data⟩ (by simp) rfl) rfl
          have eg : ev (.tmp 18) = .bool false := hA.val 4 _ 18 rfl (hp ⟨4, .guard⟩ (by simp) rfl) rfl
          refine ⟨_, 18, false, rfl, rfl, eg, ?_⟩
          rw [if_neg (by decide)]
          have hcc := hA.const
          clear hA hp
          exact ⟨rfl, hI⟩
        · refine Reg.StepAt.guarded (i := 8) rfl ?_
          intro L ev w hI hk hp hA
          have e2 : ev (.tmp 2) = .pointer (some ⟨xb, 0, none⟩) := hA.oldNone 2 (by kernel_rfl)
          have eg : ev (.tmp 18) = .bool false := hA.val 4 _ 18 rfl (hp ⟨4, .guard⟩ (by simp) rfl) rfl
          refine ⟨_, 18, false, rfl, rfl, eg, ?_⟩
          rw [if_neg (by decide)]
          have hcc := hA.const
          clear hA hp
          exact ⟨rfl, hI⟩
        · refine Reg.StepAt.guarded (i := 9) rfl ?_
          intro L ev w hI hk hp hA
          have e21 : (fun v _ => v = undef) (ev (.tmp 21)) w := hA.val 7 _ 21 rfl (hp ⟨7, .data⟩ (by simp) rfl) rfl
          have e22 : (fun v _ => v = undef) (ev (.tmp 22)) w := hA.val 8 _ 22 rfl (hp ⟨8, .data⟩ (by simp) rfl) rfl
          have eg : ev (.tmp 18) = .bool false := hA.val 4 _ 18 rfl (hp ⟨4, .chain⟩ (by simp) rfl) rfl
          refine ⟨_, 18, false, rfl, rfl, eg, ?_⟩
          rw [if_neg (by decide)]
          have hcc := hA.const
          have hcf := hA.func
          clear hA hp
          exact ⟨rfl, hI⟩
        · refine Reg.StepAt.guarded (i := 10) rfl ?_
          intro L ev w hI hk hp hA
          have e23 : (fun v _ => v = undef) (ev (.tmp 23)) w := hA.val 9 _ 23 rfl (hp ⟨9, .data⟩ (by simp) rfl) rfl
          have eg : ev (.tmp 18) = .bool false := hA.val 4 _ 18 rfl (hp ⟨4, .guard⟩ (by simp) rfl) rfl
          refine ⟨_, 18, false, rfl, rfl, eg, ?_⟩
          rw [if_neg (by decide)]
          have hcc := hA.const
          clear hA hp
          exact ⟨rfl, hI⟩
        · refine Reg.StepAt.plain (i := 11) rfl ?_
          intro L ev w hI hk hp hA
          have e18 : ev (.tmp 18) = .bool false := hA.val 4 _ 18 rfl (hp ⟨4, .data⟩ (by simp) rfl) rfl
          have e24 : (fun v _ => v = undef) (ev (.tmp 24)) w := hA.val 10 _ 24 rfl (hp ⟨10, .data⟩ (by simp) rfl) rfl
          have hcc := hA.const
          clear hA hp
          refine Reg.out_value (v := .bool false) ?_ ⟨rfl, hrefl _, hI⟩
          go_simp
        · refine Reg.StepAt.plain (i := 12) rfl ?_
          intro L ev w hI hk hp hA
          have e25 : ev (.tmp 25) = .bool false := hA.val 11 _ 25 rfl (hp ⟨11, .data⟩ (by simp) rfl) rfl
          have hcc := hA.const
          clear hA hp
          refine Reg.out_value (v := .bool false) ?_ ⟨rfl, hrefl _, hI⟩
          go_simp
        · refine Reg.StepAt.guarded (i := 13) rfl ?_
          intro L ev w hI hk hp hA
          have e2 : ev (.tmp 2) = .pointer (some ⟨xb, 0, none⟩) := hA.oldNone 2 (by kernel_rfl)
          have eg : ev (.tmp 26) = .bool false := hA.val 12 _ 26 rfl (hp ⟨12, .guard⟩ (by simp) rfl) rfl
          refine ⟨_, 26, false, rfl, rfl, eg, ?_⟩
          rw [if_pos rfl]
          have hcc := hA.const
          clear hA hp
          obtain ⟨f0, f1, f2, f3, f4, f5, f6, f7, f8, f9, f10, f11, fl⟩ := FC.out w hI
          obtain ⟨m0, m1, m2, m3, m4, m5, m6, m7, m8, m9, m10, m11, ml⟩ := FD.out w hI
          refine Reg.out_value (v := .agg #[.int .i64 c.thread, .int .i64 c.kind, .float .f64 c.pri, .int .i64 c.val, .int .i64 c.d0, .int .i64 c.d1, .int .i64 c.beg, .int .i64 c.fin, .bool c.ans.ok, .float .f64 c.ans.pri, .int .i64 c.ans.val, .int .i64 c.ans.n]) ?_ ⟨rfl, hrefl _, hI⟩
          go_simp
        · refine Reg.StepAt.guarded (i := 14) rfl ?_
          intro L ev w hI hk hp hA
          have e27 : ev (.tmp 27) = .agg #[.int .i64 c.thread, .int .i64 c.kind, .float .f64 c.pri, .int .i64 c.val, .int .i64 c.d0, .int .i64 c.d1, .int .i64 c.beg, .int .i64 c.fin, .bool c.ans.ok, .float .f64 c.ans.pri, .int .i64 c.ans.val, .int .i64 c.ans.n] := hA.val 13 _ 27 rfl (hp ⟨13, .data⟩ (by simp) rfl) rfl
          have eg : ev (.tmp 26) = .bool false := hA.val 12 _ 26 rfl (hp ⟨12, .chain⟩ (by simp) rfl) rfl
          refine ⟨_, 26, false, rfl, rfl, eg, ?_⟩
          rw [if_pos rfl]
          have hcc := hA.const
          have hcf := hA.func
          clear hA hp
          refine Reg.out_call (f := 107) (args := #[.agg #[.int .i64 c.thread, .int .i64 c.kind, .float .f64 c.pri, .int .i64 c.val, .int .i64 c.d0, .int .i64 c.d1, .int .i64 c.beg, .int .i64 c.fin, .bool c.ans.ok, .float .f64 c.ans.pri, .int .i64 c.ans.val, .int .i64 c.ans.n]]) (w0 := w) ?_ ?_
          · go_simp
          refine (hDn.out w).mono ?_
          rintro e w' ⟨rfl, hb'⟩
          exact ⟨_, rfl, rfl, hb', Reg.Keeps.trans hI hb'⟩
        · refine Reg.StepAt.guarded (i := 15) rfl ?_
          intro L ev w hI hk hp hA
          have e28 : ev (.tmp 28) = .bool true := hA.val 14 _ 28 rfl (hp ⟨14, .data⟩ (by simp) rfl) rfl
          have eg : ev (.tmp 26) = .bool false := hA.val 12 _ 26 rfl (hp ⟨12, .guard⟩ (by simp) rfl) rfl
          refine ⟨_, 26, false, rfl, rfl, eg, ?_⟩
          rw [if_pos rfl]
          have hcc := hA.const
          clear hA hp
          refine Reg.out_value (v := .bool true) ?_ ⟨rfl, hrefl _, hI⟩
          go_simp
        · refine Reg.StepAt.guarded (i := 16) rfl ?_
          intro L ev w hI hk hp hA
          have e2 : ev (.tmp 2) = .pointer (some ⟨xb, 0, none⟩) := hA.oldNone 2 (by kernel_rfl)
          have eg : ev (.tmp 29) = .bool true := hA.val 15 _ 29 rfl (hp ⟨15, .guard⟩ (by simp) rfl) rfl
          refine ⟨_, 29, true, rfl, rfl, eg, ?_⟩
          rw [if_pos rfl]
          have hcc := hA.const
          clear hA hp
          refine Reg.out_value (v := .pointer (some ⟨xb, 7, none⟩)) ?_ ⟨rfl, hrefl _, hI⟩
          go_simp
        · refine Reg.StepAt.guarded (i := 17) rfl ?_
          intro L ev w hI hk hp hA
          have e30 : ev (.tmp 30) = .pointer (some ⟨xb, 7, none⟩) := hA.val 16 _ 30 rfl (hp ⟨16, .data⟩ (by simp) rfl) rfl
          have eg : ev (.tmp 29) = .bool true := hA.val 15 _ 29 rfl (hp ⟨15, .guard⟩ (by simp) rfl) rfl
          refine ⟨_, 29, true, rfl, rfl, eg, ?_⟩
          rw [if_pos rfl]
          have hcc := hA.const
          clear hA hp
          obtain ⟨f0, f1, f2, f3, f4, f5, f6, f7, f8, f9, f10, f11, fl⟩ := FC.out w hI
          obtain ⟨m0, m1, m2, m3, m4, m5, m6, m7, m8, m9, m10, m11, ml⟩ := FD.out w hI
          refine Reg.out_value (v := .int .i64 c.fin) ?_ ⟨rfl, hrefl _, hI⟩
          go_simp
        · refine Reg.StepAt.guarded (i := 18) rfl ?_
          intro L ev w hI hk hp hA
          have e6 : ev (.tmp 6) = .pointer (some ⟨db, off, none⟩) := hA.oldNone 6 (by kernel_rfl)
          have eg : ev (.tmp 29) = .bool true := hA.val 15 _ 29 rfl (hp ⟨15, .guard⟩ (by simp) rfl) rfl
          refine ⟨_, 29, true, rfl, rfl, eg, ?_⟩
          rw [if_pos rfl]
          have hcc := hA.const
          clear hA hp
          refine Reg.out_value (v := .pointer (some ⟨db, off, none⟩)) ?_ ⟨rfl, hrefl _, hI⟩
          go_simp
        · refine Reg.StepAt.guarded (i := 19) rfl ?_
          intro L ev w hI hk hp hA
          have e32 : ev (.tmp 32) = .pointer (some ⟨db, off, none⟩) := hA.val 18 _ 32 rfl (hp ⟨18, .data⟩ (by simp) rfl) rfl
          have eg : ev (.tmp 29) = .bool true := hA.val 15 _ 29 rfl (hp ⟨15, .guard⟩ (by simp) rfl) rfl
          refine ⟨_, 29, true, rfl, rfl, eg, ?_⟩
          rw [if_pos rfl]
          have hcc := hA.const
          clear hA hp
          refine Reg.out_value (v := .pointer (some ⟨db, off, none⟩)) ?_ ⟨rfl, hrefl _, hI⟩
          go_simp
        · refine Reg.StepAt.guarded (i := 20) rfl ?_
          intro L ev w hI hk hp hA
          have e33 : ev (.tmp 33) = .pointer (some ⟨db, off, none⟩) := hA.val 19 _ 33 rfl (hp ⟨19, .data⟩ (by simp) rfl) rfl
          have eg : ev (.tmp 29) = .bool true := hA.val 15 _ 29 rfl (hp ⟨15, .guard⟩ (by simp) rfl) rfl
          refine ⟨_, 29, true, rfl, rfl, eg, ?_⟩
          rw [if_pos rfl]
          have hcc := hA.const
          clear hA hp
          refine Reg.out_value (v := .pointer (some ⟨db, off + 7, none⟩)) ?_ ⟨rfl, hrefl _, hI⟩
          go_simp
        · refine Reg.StepAt.guarded (i := 21) rfl ?_
          intro L ev w hI hk hp hA
          have e34 : ev (.tmp 34) = .pointer (some ⟨db, off + 7, none⟩) := hA.val 20 _ 34 rfl (hp ⟨20, .data⟩ (by simp) rfl) rfl
          have eg : ev (.tmp 29) = .bool true := hA.val 15 _ 29 rfl (hp ⟨15, .guard⟩ (by simp) rfl) rfl
          refine ⟨_, 29, true, rfl, rfl, eg, ?_⟩
          rw [if_pos rfl]
          have hcc := hA.const
          clear hA hp
          obtain ⟨f0, f1, f2, f3, f4, f5, f6, f7, f8, f9, f10, f11, fl⟩ := FC.out w hI
          obtain ⟨m0, m1, m2, m3, m4, m5, m6, m7, m8, m9, m10, m11, ml⟩ := FD.out w hI
          refine Reg.out_value (v := .int .i64 d.fin) ?_ ⟨rfl, hrefl _, hI⟩
          go_simp
        · refine Reg.StepAt.guarded (i := 22) rfl ?_
          intro L ev w hI hk hp hA
          have e31 : ev (.tmp 31) = .int .i64 c.fin := hA.val 17 _ 31 rfl (hp ⟨17, .data⟩ (by simp) rfl) rfl
          have e35 : ev (.tmp 35) = .int .i64 d.fin := hA.val 21 _ 35 rfl (hp ⟨21, .data⟩ (by simp) rfl) rfl
          have eg : ev (.tmp 29) = .bool true := hA.val 15 _ 29 rfl (hp ⟨15, .guard⟩ (by simp) rfl) rfl
          refine ⟨_, 29, true, rfl, rfl, eg, ?_⟩
          rw [if_pos rfl]
          have hcc := hA.const
          clear hA hp
          refine Reg.out_value (v := .bool q) ?_ ⟨rfl, hrefl _, hI⟩
          go_simp
        · refine Reg.StepAt.guarded (i := 23) rfl ?_
          intro L ev w hI hk hp hA
          have e29 : ev (.tmp 29) = .bool true := hA.val 15 _ 29 rfl (hp ⟨15, .data⟩ (by simp) rfl) rfl
          have e36 : ev (.tmp 36) = .bool q := hA.val 22 _ 36 rfl (hp ⟨22, .data⟩ (by simp) rfl) rfl
          have eg : ev (.tmp 26) = .bool false := hA.val 12 _ 26 rfl (hp ⟨12, .guard⟩ (by simp) rfl) rfl
          refine ⟨_, 26, false, rfl, rfl, eg, ?_⟩
          rw [if_pos rfl]
          have hcc := hA.const
          clear hA hp
          refine Reg.out_value (v := .bool q) ?_ ⟨rfl, hrefl _, hI⟩
          go_simp
        · refine Reg.StepAt.plain (i := 24) rfl ?_
          intro L ev w hI hk hp hA
          have e26 : ev (.tmp 26) = .bool false := hA.val 12 _ 26 rfl (hp ⟨12, .data⟩ (by simp) rfl) rfl
          have e37 : ev (.tmp 37) = .bool q := hA.val 23 _ 37 rfl (hp ⟨23, .data⟩ (by simp) rfl) rfl
          have hcc := hA.const
          clear hA hp
          refine Reg.out_value (v := .bool q) ?_ ⟨rfl, hrefl _, hI⟩
          go_simp
        intro L act wz hall hI hF
        have g14 : act.eval (.tmp 14) = .int .i64 (k : Int) := hF.val 0 _ 14 rfl (hall 0 (by simp)) rfl
        have g15 : act.eval (.tmp 15) = .pointer (some ⟨xb, 0, none⟩) := hF.val 1 _ 15 rfl (hall 1 (by simp)) rfl
        have g16 : act.eval (.tmp 16) = .int .i64 c.thread := hF.val 2 _ 16 rfl (hall 2 (by simp)) rfl
        have g17 : act.eval (.tmp 17) = .bool false := hF.val 3 _ 17 rfl (hall 3 (by simp)) rfl
        have g18 : act.eval (.tmp 18) = .bool false := hF.val 4 _ 18 rfl (hall 4 (by simp)) rfl
        have g19 : (fun v _ => v = undef) (act.eval (.tmp 19)) wz := hF.val 5 _ 19 rfl (hall 5 (by simp)) rfl
        have g20 : (fun v _ => v = undef) (act.eval (.tmp 20)) wz := hF.val 6 _ 20 rfl (hall 6 (by simp)) rfl
        have g21 : (fun v _ => v = undef) (act.eval (.tmp 21)) wz := hF.val 7 _ 21 rfl (hall 7 (by simp)) rfl
        have g22 : (fun v _ => v = undef) (act.eval (.tmp 22)) wz := hF.val 8 _ 22 rfl (hall 8 (by simp)) rfl
        have g23 : (fun v _ => v = undef) (act.eval (.tmp 23)) wz := hF.val 9 _ 23 rfl (hall 9 (by simp)) rfl
        have g24 : (fun v _ => v = undef) (act.eval (.tmp 24)) wz := hF.val 10 _ 24 rfl (hall 10 (by simp)) rfl
        have g25 : act.eval (.tmp 25) = .bool false := hF.val 11 _ 25 rfl (hall 11 (by simp)) rfl
        have g26 : act.eval (.tmp 26) = .bool false := hF.val 12 _ 26 rfl (hall 12 (by simp)) rfl
        have g27 : act.eval (.tmp 27) = .agg #[.int .i64 c.thread, .int .i64 c.kind, .float .f64 c.pri, .int .i64 c.val, .int .i64 c.d0, .int .i64 c.d1, .int .i64 c.beg, .int .i64 c.fin, .bool c.ans.ok, .float .f64 c.ans.pri, .int .i64 c.ans.val, .int .i64 c.ans.n] := hF.val 13 _ 27 rfl (hall 13 (by simp)) rfl
        have g28 : act.eval (.tmp 28) = .bool true := hF.val 14 _ 28 rfl (hall 14 (by simp)) rfl
        have g29 : act.eval (.tmp 29) = .bool true := hF.val 15 _ 29 rfl (hall 15 (by simp)) rfl
        have g30 : act.eval (.tmp 30) = .pointer (some ⟨xb, 7, none⟩) := hF.val 16 _ 30 rfl (hall 16 (by simp)) rfl
        have g31 : act.eval (.tmp 31) = .int .i64 c.fin := hF.val 17 _ 31 rfl (hall 17 (by simp)) rfl
        have g32 : act.eval (.tmp 32) = .pointer (some ⟨db, off, none⟩) := hF.val 18 _ 32 rfl (hall 18 (by simp)) rfl
        have g33 : act.eval (.tmp 33) = .pointer (some ⟨db, off, none⟩) := hF.val 19 _ 33 rfl (hall 19 (by simp)) rfl
        have g34 : act.eval (.tmp 34) = .pointer (some ⟨db, off + 7, none⟩) := hF.val 20 _ 34 rfl (hall 20 (by simp)) rfl
        have g35 : act.eval (.tmp 35) = .int .i64 d.fin := hF.val 21 _ 35 rfl (hall 21 (by simp)) rfl
        have g36 : act.eval (.tmp 36) = .bool q := hF.val 22 _ 36 rfl (hall 22 (by simp)) rfl
        have g37 : act.eval (.tmp 37) = .bool q := hF.val 23 _ 37 rfl (hall 23 (by simp)) rfl
        have g38 : act.eval (.tmp 38) = .bool q := hF.val 24 _ 38 rfl (hall 24 (by simp)) rfl
        have hact := hF.act [14, 15, 16, 17, 18, 19, 20, 21, 22, 23, 24, 25, 26, 27, 28, 29, 30, 31, 32, 33, 34, 35, 36, 37, 38] (by kernel_rfl)
        clear hF hall
        simp only [List.foldl_cons, List.foldl_nil] at hact
        rw [g14, g15, g16, g17, g18, g25, g26, g27, g28, g29, g30, g31, g32, g33, g34, g35, g36, g37, g38] at hact
        clear g14 g15 g16 g17 g18 g25 g26 g27 g28 g29 g30 g31 g32 g33 g34 g35 g36 g37 g38
        generalize act.eval (.tmp 19) = u19 at hact g19
        generalize act.eval (.tmp 20) = u20 at hact g20
        generalize act.eval (.tmp 21) = u21 at hact g21
        generalize act.eval (.tmp 22) = u22 at hact g22
        generalize act.eval (.tmp 23) = u23 at hact g23
        generalize act.eval (.tmp 24) = u24 at hact g24
        simp only [List.setIfInBounds_toArray, List.set_cons_succ, List.set_cons_zero] at hact
        subst hact
        have hwz : Below wr.heap.size wr wz := hI
        clear hI
        cases q with
        | true =>
          have HE := hidq (And.intro (HNO.out (by rw [HOK.out]; rw [HTH.out]; rfl)) (HLOW.out wz hwz).2)
          clear hwz FC FD
          go_wp2_with fail
          go_ret
          exact ⟨by rw [HE.out.1]; rfl, HE.out.2⟩
        | false =>
          have HE := hidq (And.intro (HNX.out (by rw [HOK.out]; rw [HTH.out]; rfl)) (HLOW.out wz hwz).1)
          clear hwz FC FD
          go_wp2_with fail
          go_roundw
          case rel => exact ⟨k + 1, by go_num, by omega, HE.out.1, HE.out.2⟩
          case measure => simp [intOf]; omega
      | false =>
        go_wp2_with fail
        have hrefl : ∀ w : World, Reg.Keeps w w := Reg.Keeps.refl
        refine Reg.wp_region_props (Reg.ofList (follffR k xb c)) Reg.Keeps (fun _ w => Reg.Keeps wr w) (by kernel_rfl) (by kernel_rfl) (Reg.AllKept.at _ (follffR_kept k xb c)) hrefl (Reg.Keeps.drewN (Reg.Keeps.refl _) 1) ⟨?_, ?_, ?_, ?_, ?_, ?_, ?_, ?_, ?_, ?_, ?_, ?_, ?_, ?_, ?_, ?_, ?_, ?_, ?_, ?_, ?_, ?_, ?_, ?_, ?_, trivial⟩ ?_
        · refine Reg.StepAt.plain (i := 0) rfl ?_
          intro L ev w hI hk hp hA
          have e5 : ev (.tmp 5) = .int .i64 (k : Int) := hA.oldNone 5 (by kernel_rfl)
          have hcc := hA.const
          clear hA hp
          refine Reg.out_value (v := .int .i64 (k : Int)) ?_ ⟨rfl, hrefl _, hI⟩
          go_simp
        · refine Reg.StepAt.plain (i := 1) rfl ?_
          intro L ev w hI hk hp hA
          have e2 : ev (.tmp 2) = .pointer (some ⟨xb, 0, none⟩) := hA.oldNone 2 (by kernel_rfl)
          have hcc := hA.const
          clear hA hp
          refine Reg.out_value (v := .pointer (some ⟨xb, 0, none⟩)) ?_ ⟨rfl, hrefl _, hI⟩
          go_simp
        · refine Reg.StepAt.plain (i := 2) rfl ?_
          intro L ev w hI hk hp hA
          have e15 : ev (.tmp 15) = .pointer (some ⟨xb, 0, none⟩) := hA.val 1 _ 15 rfl (hp ⟨1, .data⟩ (by simp) rfl) rfl
          have hcc := hA.const
          clear hA hp
          obtain ⟨f0, f1, f2, f3, f4, f5, f6, f7, f8, f9, f10, f11, fl⟩ := FC.out w hI
          obtain ⟨m0, m1, m2, m3, m4, m5, m6, m7, m8, m9, m10, m11, ml⟩ := FD.out w hI
          refine Reg.out_value (v := .int .i64 c.thread) ?_ ⟨rfl, hrefl _, hI⟩
          go_simp
        · refine Reg.StepAt.plain (i := 3) rfl ?_
          intro L ev w hI hk hp hA
          have e14 : ev (.tmp 14) = .int .i64 (k : Int) := hA.val 0 _ 14 rfl (hp ⟨0, .data⟩ (by simp) rfl) rfl
          have e16 : ev (.tmp 16) = .int .i64 c.thread := hA.val 2 _ 16 rfl (hp ⟨2, .data⟩ (by simp) rfl) rfl
          have hcc := hA.const
          clear hA hp
          refine Reg.out_value (v := .bool false) ?_ ⟨rfl, hrefl _, hI⟩
          go_simp
        · refine Reg.StepAt.plain (i := 4) rfl ?_
          intro L ev w hI hk hp hA
          have e17 : ev (.tmp 17) = .bool false := hA.val 3 _ 17 rfl (hp ⟨3, .data⟩ (by simp) rfl) rfl
          have hcc := hA.const
          clear hA hp
          refine Reg.out_value (v := .bool false) ?_ ⟨rfl, hrefl _, hI⟩
          go_simp
        · refine Reg.StepAt.guarded (i := 5) rfl ?_
          intro L ev w hI hk hp hA
          have e6 : ev (.tmp 6) = .pointer (some ⟨db, off, none⟩) := hA.oldNone 6 (by kernel_rfl)
          have eg : ev (.tmp 18) = .bool false := hA.val 4 _ 18 rfl (hp ⟨4, .guard⟩ (by simp) rfl) rfl
          refine ⟨_, 18, false, rfl, rfl, eg, ?_⟩
          rw [if_neg (by decide)]
          have hcc := hA.const
          clear hA hp
          exact ⟨rfl, hI⟩
        · refine Reg.StepAt.guarded (i := 6) rfl ?_
          intro L ev w hI hk hp hA
          have e19 : (fun v _ => v = undef) (ev (.tmp 19)) w := hA.val 5 _ 19 rfl (hp ⟨5, .data⟩ (by simp) rfl) rfl
          have eg : ev (.tmp 18) = .bool false := hA.val 4 _ 18 rfl (hp ⟨4, .guard⟩ (by simp) rfl) rfl
          refine ⟨_, 18, false, rfl, rfl, eg, ?_⟩
          rw [if_neg (by decide)]
          have hcc := hA.const
          clear hA hp
          exact ⟨rfl, hI⟩
        · refine Reg.StepAt.guarded (i := 7) rfl ?_
          intro L ev w hI hk hp hA
          have e20 : (fun v _ => v = undef) (ev (.tmp 20)) w := hA.val 6 _ 20 rfl (hp ⟨6, .data⟩ (by simp) rfl) rfl
          have eg : ev (.tmp 18) = .bool false := hA.val 4 _ 18 rfl (hp ⟨4, .guard⟩ (by simp) rfl) rfl
          refine ⟨_, 18, false, rfl, rfl, eg, ?_⟩
          rw [if_neg (by decide)]
          have hcc := hA.const
          clear hA hp
          exact ⟨rfl, hI⟩
        · refine Reg.StepAt.guarded (i := 8) rfl ?_
          intro L ev w hI hk hp hA
          have e2 : ev (.tmp 2) = .pointer (some ⟨xb, 0, none⟩) := hA.oldNone 2 (by kernel_rfl)
          have eg : ev (.tmp 18) = .bool false := hA.val 4 _ 18 rfl (hp ⟨4, .guard⟩ (by simp) rfl) rfl
          refine ⟨_, 18, false, rfl, rfl, eg, ?_⟩
          rw [if_neg (by decide)]
          have hcc := hA.const
          clear hA hp
          exact ⟨rfl, hI⟩
        · refine Reg.StepAt.guarded (i := 9) rfl ?_
          intro L ev w hI hk hp hA
          have e21 : (fun v _ => v = undef) (ev (.tmp 21)) w := hA.val 7 _ 21 rfl (hp ⟨7, .data⟩ (by simp) rfl) rfl
          have e22 : (fun v _ => v = undef) (ev (.tmp 22)) w := hA.val 8 _ 22 rfl (hp ⟨8, .data⟩ (by simp) rfl) rfl
          have eg : ev (.tmp 18) = .bool false := hA.val 4 _ 18 rfl (hp ⟨4, .chain⟩ (by simp) rfl) rfl
          refine ⟨_, 18, false, rfl, rfl, eg, ?_⟩
          rw [if_neg (by decide)]
          have hcc := hA.const
          have hcf := hA.func
          clear hA hp
          exact ⟨rfl, hI⟩
        · refine Reg.StepAt.guarded (i := 10) rfl ?_
          intro L ev w hI hk hp hA
          have e23 : (fun v _ => v = undef) (ev (.tmp 23)) w := hA.val 9 _ 23 rfl (hp ⟨9, .data⟩ (by simp) rfl) rfl
          have eg : ev (.tmp 18) = .bool false := hA.val 4 _ 18 rfl (hp ⟨4, .guard⟩ (by simp) rfl) rfl
          refine ⟨_, 18, false, rfl, rfl, eg, ?_⟩
          rw [if_neg (by decide)]
          have hcc := hA.const
          clear hA hp
          exact ⟨rfl, hI⟩
        · refine Reg.StepAt.plain (i := 11) rfl ?_
          intro L ev w hI hk hp hA
          have e18 : ev (.tmp 18) = .bool false := hA.val 4 _ 18 rfl (hp ⟨4, .data⟩ (by simp) rfl) rfl
          have e24 : (fun v _ => v = undef) (ev (.tmp 24)) w := hA.val 10 _ 24 rfl (hp ⟨10, .data⟩ (by simp) rfl) rfl
          have hcc := hA.const
          clear hA hp
          refine Reg.out_value (v := .bool false) ?_ ⟨rfl, hrefl _, hI⟩
          go_simp
        · refine Reg.StepAt.plain (i := 12) rfl ?_
          intro L ev w hI hk hp hA
          have e25 : ev (.tmp 25) = .bool false := hA.val 11 _ 25 rfl (hp ⟨11, .data⟩ (by simp) rfl) rfl
          have hcc := hA.const
          clear hA hp
          refine Reg.out_value (v := .bool false) ?_ ⟨rfl, hrefl _, hI⟩
          go_simp
        · refine Reg.StepAt.guarded (i := 13) rfl ?_
          intro L ev w hI hk hp hA
          have e2 : ev (.tmp 2) = .pointer (some ⟨xb, 0, none⟩) := hA.oldNone 2 (by kernel_rfl)
          have eg : ev (.tmp 26) = .bool false := hA.val 12 _ 26 rfl (hp ⟨12, .guard⟩ (by simp) rfl) rfl
          refine ⟨_, 26, false, rfl, rfl, eg, ?_⟩
          rw [if_pos rfl]
          have hcc := hA.const
          clear hA hp
          obtain ⟨f0, f1, f2, f3, f4, f5, f6, f7, f8, f9, f10, f11, fl⟩ := FC.out w hI
          obtain ⟨m0, m1, m2, m3, m4, m5, m6, m7, m8, m9, m10, m11, ml⟩ := FD.out w hI
          refine Reg.out_value (v := .agg #[.int .i64 c.thread, .int .i64 c.kind, .float .f64 c.pri, .int .i64 c.val, .int .i64 c.d0, .int .i64 c.d1, .int .i64 c.beg, .int .i64 c.fin, .bool c.ans.ok, .float .f64 c.ans.pri, .int .i64 c.ans.val, .int .i64 c.ans.n]) ?_ ⟨rfl, hrefl _, hI⟩
          go_simp
        · refine Reg.StepAt.guarded (i := 14) rfl ?_
          intro L ev w hI hk hp hA
          have e27 : ev (.tmp 27) = .agg #[.int .i64 c.thread, .int .i64 c.kind, .float .f64 c.pri, .int .i64 c.val, .int .i64 c.d0, .int .i64 c.d1, .int .i64 c.beg, .int .i64 c.fin, .bool c.ans.ok, .float .f64 c.ans.pri, .int .i64 c.ans.val, .int .i64 c.ans.n] := hA.val 13 _ 27 rfl (hp ⟨13, .data⟩ (by simp) rfl) rfl
          have eg : ev (.tmp 26) = .bool false := hA.val 12 _ 26 rfl (hp ⟨12, .chain⟩ (by simp) rfl) rfl
          refine ⟨_, 26, false, rfl, rfl, eg, ?_⟩
          rw [if_pos rfl]
          have hcc := hA.const
          have hcf := hA.func
          clear hA hp
          refine Reg.out_call (f := 107) (args := #[.agg #[.int .i64 c.thread, .int .i64 c.kind, .float .f64 c.pri, .int .i64 c.val, .int .i64 c.d0, .int .i64 c.d1, .int .i64 c.beg, .int .i64 c.fin, .bool c.ans.ok, .float .f64 c.ans.pri, .int .i64 c.ans.val, .int .i64 c.ans.n]]) (w0 := w) ?_ ?_
          · go_simp
          refine (hDn.out w).mono ?_
          rintro e w' ⟨rfl, hb'⟩
          exact ⟨_, rfl, rfl, hb', Reg.Keeps.trans hI hb'⟩
        · refine Reg.StepAt.guarded (i := 15) rfl ?_
          intro L ev w hI hk hp hA
          have e28 : ev (.tmp 28) = .bool false := hA.val 14 _ 28 rfl (hp ⟨14, .data⟩ (by simp) rfl) rfl
          have eg : ev (.tmp 26) = .bool false := hA.val 12 _ 26 rfl (hp ⟨12, .guard⟩ (by simp) rfl) rfl
          refine ⟨_, 26, false, rfl, rfl, eg, ?_⟩
          rw [if_pos rfl]
          have hcc := hA.const
          clear hA hp
          refine Reg.out_value (v := .bool false) ?_ ⟨rfl, hrefl _, hI⟩
          go_simp
        · refine Reg.StepAt.guarded (i := 16) rfl ?_
          intro L ev w hI hk hp hA
          have e2 : ev (.tmp 2) = .pointer (some ⟨xb, 0, none⟩) := hA.oldNone 2 (by kernel_rfl)
          have eg : ev (.tmp 29) = .bool false := hA.val 15 _ 29 rfl (hp ⟨15, .guard⟩ (by simp) rfl) rfl
          refine ⟨_, 29, false, rfl, rfl, eg, ?_⟩
          rw [if_neg (by decide)]
          have hcc := hA.const
          clear hA hp
          exact ⟨rfl, hI⟩
        · refine Reg.StepAt.guarded (i := 17) rfl ?_
          intro L ev w hI hk hp hA
          have e30 : (fun v _ => v = undef) (ev (.tmp 30)) w := hA.val 16 _ 30 rfl (hp ⟨16, .data⟩ (by simp) rfl) rfl
          have eg : ev (.tmp 29) = .bool false := hA.val 15 _ 29 rfl (hp ⟨15, .guard⟩ (by simp) rfl) rfl
          refine ⟨_, 29, false, rfl, rfl, eg, ?_⟩
          rw [if_neg (by decide)]
          have hcc := hA.const
          clear hA hp
          exact ⟨rfl, hI⟩
        · refine Reg.StepAt.guarded (i := 18) rfl ?_
          intro L ev w hI hk hp hA
          have e6 : ev (.tmp 6) = .pointer (some ⟨db, off, none⟩) := hA.oldNone 6 (by kernel_rfl)
          have eg : ev (.tmp 29) = .bool false := hA.val 15 _ 29 rfl (hp ⟨15, .guard⟩ (by simp) rfl) rfl
          refine ⟨_, 29, false, rfl, rfl, eg, ?_⟩
          rw [if_neg (by decide)]
          have hcc := hA.const
          clear hA hp
          exact ⟨rfl, hI⟩
        · refine Reg.StepAt.guarded (i := 19) rfl ?_
          intro L ev w hI hk hp hA
          have e32 : (fun v _ => v = undef) (ev (.tmp 32)) w := hA.val 18 _ 32 rfl (hp ⟨18, .data⟩ (by simp) rfl) rfl
          have eg : ev (.tmp 29) = .bool false := hA.val 15 _ 29 rfl (hp ⟨15, .guard⟩ (by simp) rfl) rfl
          refine ⟨_, 29, false, rfl, rfl, eg, ?_⟩
          rw [if_neg (by decide)]
          have hcc := hA.const
          clear hA hp
          exact ⟨rfl, hI⟩
        · refine Reg.StepAt.guarded (i := 20) rfl ?_
          intro L ev w hI hk hp hA
          have e33 : (fun v _ => v = undef) (ev (.tmp 33)) w := hA.val 19 _ 33 rfl (hp ⟨19, .data⟩ (by simp) rfl) rfl
          have eg : ev (.tmp 29) = .bool false := hA.val 15 _ 29 rfl (hp ⟨15, .guard⟩ (by simp) rfl) rfl
          refine ⟨_, 29, false, rfl, rfl, eg, ?_⟩
          rw [if_neg (by decide)]
          have hcc := hA.const
          clear hA hp
          exact ⟨rfl, hI⟩
        · refine Reg.StepAt.guarded (i := 21) rfl ?_
          intro L ev w hI hk hp hA
          have e34 : (fun v _ => v = undef) (ev (.tmp 34)) w := hA.val 20 _ 34 rfl (hp ⟨20, .data⟩ (by simp) rfl) rfl
          have eg : ev (.tmp 29) = .bool false := hA.val 15 _ 29 rfl (hp ⟨15, .guard⟩ (by simp) rfl) rfl
          refine ⟨_, 29, false, rfl, rfl, eg, ?_⟩
          rw [if_neg (by decide)]
          have hcc := hA.const
          clear hA hp
          exact ⟨rfl, hI⟩
        · refine Reg.StepAt.guarded (i := 22) rfl ?_
          intro L ev w hI hk hp hA
          have e31 : (fun v _ => v = undef) (ev (.tmp 31)) w := hA.val 17 _ 31 rfl (hp ⟨17, .data⟩ (by simp) rfl) rfl
          have e35 : (fun v _ => v = undef) (ev (.tmp 35)) w := hA.val 21 _ 35 rfl (hp ⟨21, .data⟩ (by simp) rfl) rfl
          have eg : ev (.tmp 29) = .bool false := hA.val 15 _ 29 rfl (hp ⟨15, .guard⟩ (by simp) rfl) rfl
          refine ⟨_, 29, false, rfl, rfl, eg, ?_⟩
          rw [if_neg (by decide)]
          have hcc := hA.const
          clear hA hp
          exact ⟨rfl, hI⟩
        · refine Reg.StepAt.guarded (i := 23) rfl ?_
          intro L ev w hI hk hp hA
          have e29 : ev (.tmp 29) = .bool false := hA.val 15 _ 29 rfl (hp ⟨15, .data⟩ (by simp) rfl) rfl
          have e36 : (fun v _ => v = undef) (ev (.tmp 36)) w := hA.val 22 _ 36 rfl (hp ⟨22, .data⟩ (by simp) rfl) rfl
          have eg : ev (.tmp 26) = .bool false := hA.val 12 _ 26 rfl (hp ⟨12, .guard⟩ (by simp) rfl) rfl
          refine ⟨_, 26, false, rfl, rfl, eg, ?_⟩
          rw [if_pos rfl]
          have hcc := hA.const
          clear hA hp
          refine Reg.out_value (v := .bool false) ?_ ⟨rfl, hrefl _, hI⟩
          go_simp
        · refine Reg.StepAt.plain (i := 24) rfl ?_
          intro L ev w hI hk hp hA
          have e26 : ev (.tmp 26) = .bool false := hA.val 12 _ 26 rfl (hp ⟨12, .data⟩ (by simp) rfl) rfl
          have e37 : ev (.tmp 37) = .bool false := hA.val 23 _ 37 rfl (hp ⟨23, .data⟩ (by simp) rfl) rfl
          have hcc := hA.const
          clear hA hp
          refine Reg.out_value (v := .bool false) ?_ ⟨rfl, hrefl _, hI⟩
          go_simp
        intro L act wz hall hI hF
        have g14 : act.eval (.tmp 14) = .int .i64 (k : Int) := hF.val 0 _ 14 rfl (hall 0 (by simp)) rfl
        have g15 : act.eval (.tmp 15) = .pointer (some ⟨xb, 0, none⟩) := hF.val 1 _ 15 rfl (hall 1 (by simp)) rfl
        have g16 : act.eval (.tmp 16) = .int .i64 c.thread := hF.val 2 _ 16 rfl (hall 2 (by simp)) rfl
        have g17 : act.eval (.tmp 17) = .bool false := hF.val 3 _ 17 rfl (hall 3 (by simp)) rfl
        have g18 : act.eval (.tmp 18) = .bool false := hF.val 4 _ 18 rfl (hall 4 (by simp)) rfl
        have g19 : (fun v _ => v = undef) (act.eval (.tmp 19)) wz := hF.val 5 _ 19 rfl (hall 5 (by simp)) rfl
        have g20 : (fun v _ => v = undef) (act.eval (.tmp 20)) wz := hF.val 6 _ 20 rfl (hall 6 (by simp)) rfl
        have g21 : (fun v _ => v = undef) (act.eval (.tmp 21)) wz := hF.val 7 _ 21 rfl (hall 7 (by simp)) rfl
        have g22 : (fun v _ => v = undef) (act.eval (.tmp 22)) wz := hF.val 8 _ 22 rfl (hall 8 (by simp)) rfl
        have g23 : (fun v _ => v = undef) (act.eval (.tmp 23)) wz := hF.val 9 _ 23 rfl (hall 9 (by simp)) rfl
        have g24 : (fun v _ => v = undef) (act.eval (.tmp 24)) wz := hF.val 10 _ 24 rfl (hall 10 (by simp)) rfl
        have g25 : act.eval (.tmp 25) = .bool false := hF.val 11 _ 25 rfl (hall 11 (by simp)) rfl
        have g26 : act.eval (.tmp 26) = .bool false := hF.val 12 _ 26 rfl (hall 12 (by simp)) rfl
        have g27 : act.eval (.tmp 27) = .agg #[.int .i64 c.thread, .int .i64 c.kind, .float .f64 c.pri, .int .i64 c.val, .int .i64 c.d0, .int .i64 c.d1, .int .i64 c.beg, .int .i64 c.fin, .bool c.ans.ok, .float .f64 c.ans.pri, .int .i64 c.ans.val, .int .i64 c.ans.n] := hF.val 13 _ 27 rfl (hall 13 (by simp)) rfl
        have g28 : act.eval (.tmp 28) = .bool false := hF.val 14 _ 28 rfl (hall 14 (by simp)) rfl
        have g29 : act.eval (.tmp 29) = .bool false := hF.val 15 _ 29 rfl (hall 15 (by simp)) rfl
        have g30 : (fun v _ => v = undef) (act.eval (.tmp 30)) wz := hF.val 16 _ 30 rfl (hall 16 (by simp)) rfl
        have g31 : (fun v _ => v = undef) (act.eval (.tmp 31)) wz := hF.val 17 _ 31 rfl (hall 17 (by simp)) rfl
        have g32 : (fun v _ => v = undef) (act.eval (.tmp 32)) wz := hF.val 18 _ 32 rfl (hall 18 (by simp)) rfl
        have g33 : (fun v _ => v = undef) (act.eval (.tmp 33)) wz := hF.val 19 _ 33 rfl (hall 19 (by simp)) rfl
        have g34 : (fun v _ => v = undef) (act.eval (.tmp 34)) wz := hF.val 20 _ 34 rfl (hall 20 (by simp)) rfl
        have g35 : (fun v _ => v = undef) (act.eval (.tmp 35)) wz := hF.val 21 _ 35 rfl (hall 21 (by simp)) rfl
        have g36 : (fun v _ => v = undef) (act.eval (.tmp 36)) wz := hF.val 22 _ 36 rfl (hall 22 (by simp)) rfl
        have g37 : act.eval (.tmp 37) = .bool false := hF.val 23 _ 37 rfl (hall 23 (by simp)) rfl
        have g38 : act.eval (.tmp 38) = .bool false := hF.val 24 _ 38 rfl (hall 24 (by simp)) rfl
        have hact := hF.act [14, 15, 16, 17, 18, 19, 20, 21, 22, 23, 24, 25, 26, 27, 28, 29, 30, 31, 32, 33, 34, 35, 36, 37, 38] (by kernel_rfl)
        clear hF hall
        simp only [List.foldl_cons, List.foldl_nil] at hact
        rw [g14, g15, g16, g17, g18, g25, g26, g27, g28, g29, g37, g38] at hact
        clear g14 g15 g16 g17 g18 g25 g26 g27 g28 g29 g37 g38
        generalize act.eval (.tmp 19) = u19 at hact g19
        generalize act.eval (.tmp 20) = u20 at hact g20
        generalize act.eval (.tmp 21) = u21 at hact g21
        generalize act.eval (.tmp 22) = u22 at hact g22
        generalize act.eval (.tmp 23) = u23 at hact g23
        generalize act.eval (.tmp 24) = u24 at hact g24
        generalize act.eval (.tmp 30) = u30 at hact g30
        generalize act.eval (.tmp 31) = u31 at hact g31
        generalize act.eval (.tmp 32) = u32 at hact g32
        generalize act.eval (.tmp 33) = u33 at hact g33
        generalize act.eval (.tmp 34) = u34 at hact g34
        generalize act.eval (.tmp 35) = u35 at hact g35
        generalize act.eval (.tmp 36) = u36 at hact g36
        simp only [List.setIfInBounds_toArray, List.set_cons_succ, List.set_cons_zero] at hact
        subst hact
        have hwz : Below wr.heap.size wr wz := hI
        clear hI
        have HE := hidq (And.intro (HNX.out (by rw [HOK.out]; rw [HTH.out]; rfl)) (HLOW.out wz hwz).1)
        clear hwz FC FD
        go_wp2_with fail
        go_roundw
        case rel => exact ⟨k + 1, by go_num, by omega, HE.out.1, HE.out.2⟩
        case measure => simp [intOf]; omega
end Go.Proofs.Ytepigofpcjmddaa
