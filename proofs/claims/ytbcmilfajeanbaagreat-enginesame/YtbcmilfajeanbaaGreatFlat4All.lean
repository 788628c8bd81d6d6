/-
  Layer 4: items made canonical, a pile of them: contracts.
  Layer 4: its calls: contracts.
  Canonical items, as a cell has them.
  A slice of elements of k cells in a block of its own, by its cells one behind the other: appending to it.
  Layer 4's laws: items in the making, the document's answers: contracts.
  The document's items, one behind the other.
-/
import Derived.Test.YtbcmilfajeanbaaGreatPileQAll
import Derived.Test.YtbcmilfajeanbaaGreatOpIn6All
import Derived.Test.YtbcmilfajeanbaaGreatKNew9All
import Derived.Laws.IdiomCopy
namespace Go.Proofs.YtbcmilfajeanbaaGreat
open Go.RowKit Go.Sort

/-- Items that are handed over: their bits and values. -/
def Items (w : World) (a : Option Addr) (n : Nat) (P : Nat → Nat) (V : Nat → Int) : Prop :=
  ∀ i, i < n → ∃ g, a = some ⟨g, 0, none⟩ ∧ g < w.heap.size ∧ w.cell? ⟨g, i * 2, none⟩ = some (.float .f64 (P i)) ∧ w.cell? ⟨g, i * 2 + 1, none⟩ = some (.int .i64 (V i)) ∧ P i < 18446744073709551616
theorem Items.below {w w' : World} {a : Option Addr} {n : Nat} {P : Nat → Nat} {V : Nat → Int} (h : Items w a n P V) (hb : Below w.heap.size w w') : Items w' a n P V := fun i hi => by
  obtain ⟨g, h1, h2, h3, h4, h5⟩ := h i hi
  exact ⟨g, h1, Nat.lt_of_lt_of_le h2 hb.size, by rw [hb.cell (p := ⟨g, i * 2, none⟩) h2]; exact h3, by rw [hb.cell (p := ⟨g, i * 2 + 1, none⟩) h2]; exact h4, h5⟩
def canArr (P : Nat → Nat) (V : Nat → Int) (n k : Nat) : Array KI := (Array.range n).map fun i => if i < k then mkKI (P i) (V i) else default
theorem canArr_size (P : Nat → Nat) (V : Nat → Int) (n k : Nat) : (canArr P V n k).size = n := by simp [canArr]
theorem canArr_get (P : Nat → Nat) (V : Nat → Int) (n k i : Nat) (h : i < n) : (canArr P V n k)[i]! = if i < k then mkKI (P i) (V i) else default := by
  rw [getElem!_pos _ i (by rw [canArr_size]; exact h)]; simp [canArr]
theorem canArr_step (P : Nat → Nat) (V : Nat → Int) (n k : Nat) : (canArr P V n k).setIfInBounds k (mkKI (P k) (V k)) = canArr P V n (k + 1) := by
  apply Array.ext
  · simp [canArr]
  · intro i h1 h2
    rw [Array.getElem_setIfInBounds (by simpa using h1)]
    simp only [canArr, Array.getElem_map, Array.getElem_range]
    by_cases e : k = i
    · subst e; simp
    · rw [if_neg e]
      by_cases e2 : i < k
      · rw [if_pos e2, if_pos (by omega)]
      · rw [if_neg e2, if_neg (by omega)]

theorem made (n : Nat) (hn : n ≤ 1099511627776) (P : Nat → Nat) (V : Nat → Int) (w : World) : ∃ w0, (Instr.makeSlice 52 (.int .i64 (n : Int)) (.int .i64 (n : Int))).run Tryz.prog w = .ok (.slice (some ⟨w.heap.size, 0, none⟩) n n) w0 ∧ Row w0 w.heap.size n (canArr P V n 0) ∧ Below w.heap.size w w0 ∧ w0.heap.size = w.heap.size + 1 := by
  obtain ⟨i, hi, hz, hsz, hby⟩ := info_item
  have hr := run_make (P := Tryz.prog) w 52 40 i _ Tryz.underlying52 hi hz .i64 .i64 (n : Int) (n : Int) (by omega) (Int.le_refl _) (by rw [hby]; omega) (by omega)
  rw [Int.toNat_natCast, hsz] at hr
  refine ⟨_, hr, ?_, (Below.refl _ _).alloc (Nat.le_refl _) _, by simp⟩
  have hc : ∀ j, (w.alloc (.cells (madeCells (Value.agg #[.float .f64 0, .int .i64 0]).cells (n * 2)) 40)).cell? ⟨w.heap.size, j, none⟩ = (madeCells (Value.agg #[.float .f64 0, .int .i64 0]).cells (n * 2))[j]? := fun j => World.cell?_alloc_new w _ _ j
  refine Row.ofCells (by simp) (by rw [canArr_size]; exact Nat.le_refl _) (by rw [canArr_size]; exact hn) (by unfold maxLen; omega) (fun t ht => ?_) (fun j hj => ⟨?_, World.frozen?_alloc_new w _ _ _⟩)
  · rw [canArr_size] at ht
    rw [hc, Array.getElem?_eq_getElem (by rw [size_madeCells]; exact ht)]
    have e0 : (canArr P V n 0)[t / 2]! = default := by rw [canArr_get P V n 0 (t / 2) (by omega), if_neg (by omega)]
    unfold cellOf
    rw [e0]
    have ez : (Value.agg #[.float .f64 0, .int .i64 0]).cells = #[.float .f64 0, .int .i64 0] := rfl
    simp only [madeCells, Array.getElem_map, Array.getElem_range, ez]
    rcases Nat.mod_two_eq_zero_or_one t with e | e
    · rw [if_pos e]
      show some ((#[Value.float .f64 0, Value.int .i64 0] : Array Value)[t % 2]!) = _
      rw [e]; rfl
    · rw [if_neg (by omega)]
      show some ((#[Value.float .f64 0, Value.int .i64 0] : Array Value)[t % 2]!) = _
      rw [e]; rfl
  · rw [hc, Array.getElem?_eq_getElem (by rw [size_madeCells]; exact hj)]; rfl

set_option maxHeartbeats 1000000 in
theorem canonical_any (a : Option Addr) (n cap : Nat) (P : Nat → Nat) (V : Nat → Int) (w : World) (h : Items w a n P V) (hn : n ≤ 1099511627776) :
    Calls Tryz.prog 92 #[.slice a n cap] w fun e w' => ∃ g, e = .returned (.slice (some ⟨g, 0, none⟩) n n) ∧ w.heap.size ≤ g ∧ Row w' g n (canArr P V n n) ∧ Below w.heap.size w w' := by
  have hn1 : (n : Int) ≤ 1099511627776 := by omega
  obtain ⟨w0, hmk, hR0, hB0, hs0⟩ := made n hn P V w
  clear hs0
  have hsf := run_store_float (P := Tryz.prog)
  go_enter Tryz.func92, Tryz.ntmps92
  go_wp2
  go_loopw [11] (fun s wr => ∃ k : Nat, s = .int .i64 (k : Int) ∧ k ≤ n ∧ Row wr w.heap.size n (canArr P V n k) ∧ Below w.heap.size w wr) (fun s _ => n - (intOf s).toNat)
  case atStart => exact ⟨0, rfl, Nat.zero_le _, hR0, hB0⟩
  case round =>
    obtain ⟨k, rfl, hk, hR, hB⟩ := hrel
    by_cases hlt : k < n
    · obtain ⟨ga, rfl, hg, hf, hv, hp⟩ := h k hlt
      have hf' : wr.cell? ⟨ga, k * 2, none⟩ = some (.float .f64 (P k)) := by rw [hB.cell (p := ⟨ga, k * 2, none⟩) hg]; exact hf
      have hv' : wr.cell? ⟨ga, k * 2 + 1, none⟩ = some (.int .i64 (V k)) := by rw [hB.cell (p := ⟨ga, k * 2 + 1, none⟩) hg]; exact hv
      have hcn := icanon_any (P k) (V k) (wr.alloc (boxI (P k) (V k)))
      have k1 : (k : Int) < (n : Int) := by omega
      go_wp2_with fail
      refine hcn.mono ?_
      rintro e w2 ⟨rfl, hb2⟩
      have hbb : But (fun _ => False) wr w2 := ((But.refl _ wr).alloc _).trans (But.of_below hb2)
      have hR2 := hR.but hbb id
      have hs := hR2.set k (by rw [canArr_size]; exact hlt) (mkKI (P k) (V k))
      rw [canArr_step, mkKI_b hp, mkKI_v hp] at hs
      have z1 := (hR2.there (k * 2) (by omega)).2
      have z2 := (hR2.there (k * 2 + 1) (by omega)).2
      have c1 := hR2.flt k (by rw [canArr_size]; exact hlt)
      have c2 := hR2.val k (by rw [canArr_size]; exact hlt)
      have hB2 : Below w.heap.size w w2 := hB.trans (hbb.below hB.size (fun _ e => e.elim))
      clear hcn hR2 hR hbb hb2 hf hv hf' hv' hmk
      go_wp2
      go_roundw
      case rel => exact ⟨k + 1, by go_num, by omega, hs, (hB2.setCell (Nat.le_refl _) _).setCell (Nat.le_refl _) _⟩
      case measure => simp [intOf]; omega
    · have hd : decide ((k : Int) < (n : Int)) = false := decide_eq_false (by omega)
      have hkn : k = n := by omega
      have HR : Row wr w.heap.size n (canArr P V n n) := by rw [hkn] at hR; exact hR
      clear hR hmk hkn
      go_wp2
      go_ret
      exact ⟨w.heap.size, rfl, Nat.le_refl _, HR, hB⟩
end Go.Proofs.YtbcmilfajeanbaaGreat

namespace Go.Proofs.YtbcmilfajeanbaaGreat
open Go.RowKit Go.Sort

/-- A pile that is a heap. -/
structure HeapAt (w : World) (b g : Nat) (d : Array KI) : Prop where
  pile : ∃ cap, PileAt w b g cap d
  heap : Hp.Heap KI.lt d d.size 0
theorem HeapAt.but {S : Nat → Prop} {w w' : World} {b g : Nat} {d : Array KI} (h : HeapAt w b g d) (hb : But S w w') (h1 : ¬ S b) (h2 : ¬ S g) : HeapAt w' b g d := by
  obtain ⟨cap, hP⟩ := h.pile
  exact ⟨⟨cap, hP.but hb h1 h2⟩, h.heap⟩

theorem new_any (a : Option Addr) (n cap : Nat) (P : Nat → Nat) (V : Nat → Int) (w : World) (h : Items w a n P V) (hn : n ≤ 1099511627776) :
    Calls Tryz.prog 171 #[.slice a n cap] w fun e w' => ∃ b g d, e = .returned (.pointer (some ⟨b, 0, none⟩)) ∧ w.heap.size ≤ b ∧ w.heap.size ≤ g ∧ HeapAt w' b g d ∧ d.toList.Perm (canArr P V n n).toList ∧ Below w.heap.size w w' := by
  go_enter Tryz.func171, Tryz.ntmps171
  go_wp2_with (go_at_call 92; refine (canonical_any a n cap P V _ h hn).mono ?_; rintro e w1 ⟨g, rfl, hg, hR, hB⟩)
  have hs := canArr_size P V n n
  have hP : PileAt (w1.alloc (.cells #[.slice (some ⟨g, 0, none⟩) n n] 250)) w1.heap.size g n (canArr P V n n) := by
    refine ⟨?_, World.frozen?_alloc_new w1 _ _ _, ?_, by simp, hR.but (S := fun _ => False) ((But.refl _ _).alloc _) id⟩
    · rw [World.cell?_alloc_new, hs]; rfl
    · have := hR.lt; omega
  have hB1 : Below w.heap.size w (w1.alloc (.cells #[.slice (some ⟨g, 0, none⟩) n n] 250)) := hB.trans ((Below.refl _ _).alloc hB.size _)
  have hgb : g < w1.heap.size := hR.lt
  clear hR
  refine (init_any w1.heap.size g n (canArr P V n n) _ hP).mono ?_
  rintro e w2 ⟨rfl, d, hS, hH⟩
  go_wp2
  go_ret
  refine ⟨w1.heap.size, g, d, rfl, hB.size, hg, ⟨⟨n, hS.pile⟩, by rw [hS.size]; exact hH⟩, hS.perm, hB1.trans (hS.but.below hB1.size (fun k hk => by rw [hk]; exact hg))⟩

theorem put_any (b g p : Nat) (v : Int) (d : Array KI) (w : World) (h : HeapAt w b g d) (hp : p < 18446744073709551616) (hs : d.size + 1 ≤ 1099511627776) :
    Calls Tryz.prog 172 #[.pointer (some ⟨b, 0, none⟩), .agg #[.float .f64 p, .int .i64 v]] w fun e w' => e = .returned (.tuple #[]) ∧
      ∃ g' d', HeapAt w' b g' d' ∧ d'.toList.Perm (mkKI p v :: d.toList) ∧ But (fun k => k = b ∨ k = g) w w' ∧ (g' = g ∨ w.heap.size ≤ g') := by
  have hPu : ∀ w1, But (fun _ => False) w w1 → Calls Tryz.prog 177 #[.iface 252 (.pointer (some ⟨b, 0, none⟩)), .iface 40 (.agg #[.float .f64 (cbits p), .int .i64 v])] w1 fun e w' => e = .returned (.tuple #[]) ∧
      ∃ g' d', HeapAt w' b g' d' ∧ d'.toList.Perm (mkKI p v :: d.toList) ∧ But (fun k => k = b ∨ k = g) w w' ∧ (g' = g ∨ w.heap.size ≤ g') := fun w1 hb => by
    obtain ⟨cap, hP⟩ := h.pile
    have := hpush_any b g cap d (mkKI p v) w1 (hP.but hb id id) hs h.heap
    rw [mkKI_b hp, mkKI_v hp] at this
    refine this.mono ?_
    rintro e w' ⟨rfl, g', cap', d', h1, h2, h3, h4, h5⟩
    exact ⟨rfl, g', d', ⟨⟨cap', h1⟩, h2⟩, h3, (hb.mono (fun _ _ e => e.elim)).trans h4, h5.imp id (Nat.le_trans hb.size)⟩
  clear h hs hp
  go_enter Tryz.func172, Tryz.ntmps172
  go_wp2
  go_region_with (first
    | (go_at_call 102; refine (icanon_any _ _ _).mono ?_; rintro e w1 ⟨rfl, hb1⟩)
    | (go_at_call 177; refine (hPu _ (((But.refl _ w).alloc _).drew.trans (But.of_below hb1))).mono ?_; rintro e w2 ⟨rfl, g', d', hq⟩))
  all_goals go_wp2
  all_goals go_end0
  all_goals exact ⟨rfl, g', d', hq⟩

theorem first_none (b g : Nat) (d : Array KI) (w : World) (h : HeapAt w b g d) (hd : d.size = 0) :
    Calls Tryz.prog 174 #[.pointer (some ⟨b, 0, none⟩)] w fun e w' => e = .returned (.tuple #[.agg #[.float .f64 0, .int .i64 0], .bool false]) ∧ Below w.heap.size w w' := by
  obtain ⟨cap, hP⟩ := h.pile
  have hc := hP.hd
  rw [hd] at hc
  have hb := hP.blt
  have hsf := run_store_float (P := Tryz.prog)
  clear h hP hd
  go_enter Tryz.func174, Tryz.ntmps174
  go_wp2
  exact bodyPost_ret (v := .tuple #[.agg #[.float .f64 0, .int .i64 0], .bool false]) (by simp [results, Tryz.results174, go_sem]) rfl ⟨rfl, (Below.refl _ _).alloc (Nat.le_refl _) _⟩
theorem first_some (b g : Nat) (d : Array KI) (w : World) (h : HeapAt w b g d) (hd : 0 < d.size) :
    Calls Tryz.prog 174 #[.pointer (some ⟨b, 0, none⟩)] w fun e w' => e = .returned (.tuple #[.agg #[.float .f64 d[0]!.b, .int .i64 d[0]!.v], .bool true]) ∧ Below w.heap.size w w' := by
  obtain ⟨cap, hP⟩ := h.pile
  have hc := hP.hd
  have hb := hP.blt
  have hg := hP.row.lt
  have f := hP.row.flt 0 hd
  have v := hP.row.val 0 hd
  generalize d[0]! = x at *
  generalize d.size = n at *
  have hne : ((n : Int) == 0) = false := by simp; omega
  have hsf := run_store_float (P := Tryz.prog)
  clear h hP
  go_enter Tryz.func174, Tryz.ntmps174
  go_wp2
  exact bodyPost_ret (v := .tuple #[.agg #[.float .f64 x.b, .int .i64 x.v], .bool true]) (by simp [results, Tryz.results174, go_sem]) rfl ⟨rfl, (Below.refl _ _).alloc (Nat.le_refl _) _⟩
end Go.Proofs.YtbcmilfajeanbaaGreat

namespace Go.Proofs.YtbcmilfajeanbaaGreat
open Go.RowKit Go.Sort

/-- Items, as a cell has them. -/
def kit (K : List KI) : List It := K.map fun x => (x.b, x.v)
theorem kit_length (K : List KI) : (kit K).length = K.length := by simp [kit]
theorem items_of {w : World} {a : Option Addr} {cap n : Nat} {K : List KI} (hn : n = K.length) (h : SlAt 2 w a cap n (flatI (kit K))) : Items w a n (fun i => K.toArray[i]!.b) (fun i => K.toArray[i]!.v) := by
  intro i hi
  have hk : i < (kit K).length := by rw [kit_length]; omega
  have hk2 : i < K.length := by omega
  obtain ⟨e1, e2⟩ := flatI_get (kit K) i hk
  obtain ⟨g, h1, h2, h3⟩ := h.cell e1
  obtain ⟨g', h1', _, h3'⟩ := h.cell e2
  rw [h1] at h1'
  cases h1'
  have hx : K.toArray[i]! = K[i] := by rw [getElem!_pos K.toArray i (by simpa using hk2)]; rfl
  refine ⟨g, h1, h2, ?_, ?_, ?_⟩
  · rw [h3]; simp only [hx]; simp [kit]
  · rw [h3']; simp only [hx]; simp [kit]
  · exact (K.toArray[i]!).ok.1
theorem canArr_self (d : Array KI) : (canArr (fun i => d[i]!.b) (fun i => d[i]!.v) d.size d.size).toList = d.toList := by
  refine List.ext_getElem (by simp [canArr]) ?_
  intro i h1 h2
  have hi : i < d.size := by simpa using h2
  simp [canArr, hi, mkKI_self]
theorem can_kit (K : List KI) (n : Nat) (hn : n = K.length) : (canArr (fun i => K.toArray[i]!.b) (fun i => K.toArray[i]!.v) n n).toList = K := by
  have := canArr_self K.toArray
  subst hn
  simpa using this
/-- Items as they are, as canonical ones. -/
def kis (L : List It) : List KI := L.map fun q => mkKI q.1 q.2
theorem kis_kit (K : List KI) : kis (kit K) = K := by
  unfold kis kit
  rw [List.map_map]
  conv => rhs; rw [← List.map_id K]
  exact List.map_congr_left (fun x _ => mkKI_self x)
end Go.Proofs.YtbcmilfajeanbaaGreat

namespace Go.Proofs.YtbcmilfajeanbaaGreat
open Go.RowKit Go.Sort

end Go.Proofs.YtbcmilfajeanbaaGreat

namespace Go.Proofs.YtbcmilfajeanbaaGreat
open Go.RowKit Go.Sort

theorem run_equalIn_float {P : Program} (d : Nat) (t : TypeId) (a b : Nat) (w : World) (h : P.underlying t = some (.float .f64)) : (Op.equalIn (d + 1) t (.float .f64 a) (.float .f64 b)).run P w = .ok (Op.floatEq .f64 a b) w := by
  simp [Op.equalIn, run_underlying h]

theorem own_any (p v : Int) (w : World) : Calls Tryz.prog 33 #[.agg #[.int .u64 p, .int .i64 v]] w fun e w' => e = .returned (.agg #[.float .f64 (nf p), .int .i64 v]) ∧ Below w.heap.size w w' := by
  have hsf := run_store_float (P := Tryz.prog)
  go_enter Tryz.func33, Tryz.ntmps33
  go_wp2
  go_region_with (go_at_call 54; refine (f_any _ _).mono ?_; rintro e w1 ⟨rfl, hw1⟩; replace hw1 := hw1.symm; subst hw1)
  all_goals go_wp2
  all_goals exact bodyPost_ret (v := .agg #[.float .f64 (nf p), .int .i64 v]) (by simp [results, Tryz.results33, go_sem]) rfl ⟨rfl, ((((Below.refl _ _).alloc (Nat.le_refl _) _).alloc (by simp) _)).drew⟩

/-- Is an item the document's? -/
def isV (m : Nat) (a q b : Int) : Int := if ni m = q ∧ a = b then 0 else -1
end Go.Proofs.YtbcmilfajeanbaaGreat

namespace Go.Proofs.YtbcmilfajeanbaaGreat
open Go.RowKit Go.Sort

def encR (x : KI) : List Value := [.int .u64 (ni x.b), .int .i64 x.v]
def flatR (L : List KI) : List Value := L.flatMap encR
theorem flatR_length (L : List KI) : (flatR L).length = L.length * 2 := by
  induction L with
  | nil => rfl
  | cons x L ih => simp only [flatR, List.flatMap_cons, List.length_append, List.length_cons] at *; rw [ih]; simp [encR]; omega
theorem flatR_append (L M : List KI) : flatR (L ++ M) = flatR L ++ flatR M := by simp [flatR]
theorem flatR_get : ∀ (L : List KI) (i : Nat) (h : i < L.length), (flatR L)[i * 2]? = some (.int .u64 (ni L[i].b)) ∧ (flatR L)[i * 2 + 1]? = some (.int .i64 L[i].v)
  | x :: L, 0, h => ⟨rfl, rfl⟩
  | x :: L, i + 1, h => by
    have := flatR_get L i (by simpa using h)
    simp only [List.getElem_cons_succ]
    have e : flatR (x :: L) = .int .u64 (ni x.b) :: .int .i64 x.v :: flatR L := rfl
    rw [e, show (i + 1) * 2 = i * 2 + 1 + 1 by omega]
    exact this
theorem flatR_one (L : List KI) : ∀ u ∈ flatR L, u.oneCell' = true := by
  intro u hu
  simp only [flatR, List.mem_flatMap, encR] at hu
  obtain ⟨x, _, hx⟩ := hu
  simp at hx
  rcases hx with rfl | rfl <;> rfl

/-- Items that are read one by one, wherever their slice begins. -/
def RdR (w : World) (a : Option Addr) (L : List KI) : Prop :=
  ∀ i (h : i < L.length), ∃ g off, a = some ⟨g, off, none⟩ ∧ g < w.heap.size ∧ w.cell? ⟨g, off + i * 2, none⟩ = some (.int .u64 (ni L[i].b)) ∧ w.cell? ⟨g, off + i * 2 + 1, none⟩ = some (.int .i64 L[i].v)
theorem RdR.of_flat {w : World} {g cap : Nat} {L : List KI} (h : Flat 2 w g cap L.length (flatR L)) : RdR w (some ⟨g, 0, none⟩) L := fun i hi => by
  refine ⟨g, 0, rfl, h.lt, ?_, ?_⟩
  · rw [Nat.zero_add]; exact h.cell _ _ (flatR_get L i hi).1
  · rw [Nat.zero_add]; exact h.cell _ _ (flatR_get L i hi).2
theorem RdR.but {S : Nat → Prop} {w w' : World} {a : Option Addr} {L : List KI} (h : RdR w a L) (hb : But S w w') (hS : ∀ j, inB a j → ¬ S j) : RdR w' a L := fun i hi => by
  obtain ⟨g, off, h1, h2, h3, h4⟩ := h i hi
  have hn : ¬ S g := hS g ⟨_, h1, rfl⟩
  exact ⟨g, off, h1, Nat.lt_of_lt_of_le h2 hb.size, (hb.cell (p := ⟨g, off + i * 2, none⟩) h2 hn).trans h3, (hb.cell (p := ⟨g, off + i * 2 + 1, none⟩) h2 hn).trans h4⟩
theorem RdR.below {w w' : World} {a : Option Addr} {L : List KI} (h : RdR w a L) (hb : Below w.heap.size w w') : RdR w' a L := h.but (S := fun _ => False) (But.of_below hb) (fun _ _ e => e)

theorem src_two {P : Program} {T E : TypeId} (w : World) (hk : P.underlying T = some (.slice E)) (b : Nat) (u v : Value) (h0 : w.cell? ⟨b, 0, none⟩ = some u) (h1 : w.cell? ⟨b, 1, none⟩ = some v) (o0 : u.oneCell' = true) (o1 : v.oneCell' = true) : Src P 2 T (.slice (some ⟨b, 0, none⟩) 1 1) 1 [u, v] w := by
  refine Src.ofSlice w hk _ 1 1 _ rfl (fun j z hz => ?_) (fun z hz => by simp at hz; rcases hz with rfl | rfl <;> assumption)
  rw [Addr.add_lit]
  rcases j with _ | _ | j
  · simp at hz; subst hz; exact h0
  · simp at hz; subst hz; exact h1
  · simp at hz

end Go.Proofs.YtbcmilfajeanbaaGreat
