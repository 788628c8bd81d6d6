/-
  Layer 8's law of operations one by one: the call returns true.
-/
import Derived.Test.YtclcmabohpoaiaaMultiAl8
namespace Go.Proofs.Ytclcmabohpoaiaa
open Go.RowKit Go.Sort

set_option linter.unusedVariables false in
def mal12R (lo g off n cp i : Nat) (kd pr x d0 d1 kk yq : Int) : List (Value → World → Prop) :=
  [fun v _ => v = .slice (some ⟨g, off, none⟩) n cp,
   fun v _ => v = .int .i64 (i : Int),
   fun v _ => v = .pointer (some ⟨g, off + i * 5, none⟩),
   fun v _ => v = .agg #[.int .i64 kd, .int .u64 pr, .int .i64 x, .int .i64 d0, .int .i64 d1],
   fun v _ => v = .agg #[.int .i64 kk, .float .f64 (nf pr), .int .i64 x, .int .i64 d0, .int .i64 d1],
   fun v _ => v = .slice (some ⟨g, off, none⟩) n cp,
   fun v _ => v = .int .i64 (i : Int),
   fun v _ => v = .pointer (some ⟨g, off + i * 5, none⟩),
   fun v _ => v = .pointer (some ⟨g, off + i * 5 + 1, none⟩),
   fun v _ => v = .agg #[.int .u64 pr, .int .i64 x],
   fun v _ => v = .agg #[.int .u64 yq, .int .i64 x],
   fun v w => ∃ b, v = .pointer (some ⟨b, 0, none⟩) ∧ BoxAt w b [.int .i64 0, .float .f64 0, .int .i64 0, .int .i64 0, .int .i64 0] ∧ lo ≤ b,
   fun v w => ∃ b, v = .pointer (some ⟨b, 0, none⟩) ∧ BoxAt w b [.int .u64 0, .int .i64 0] ∧ lo ≤ b]
theorem mal12R_kept (lo g off n cp i : Nat) (kd pr x d0 d1 kk yq : Int) : Reg.AllKept Reg.Keeps (mal12R lo g off n cp i kd pr x d0 d1 kk yq) :=
  ⟨(fun _ _ _ _ h => h), (fun _ _ _ _ h => h), (fun _ _ _ _ h => h), (fun _ _ _ _ h => h), (fun _ _ _ _ h => h), (fun _ _ _ _ h => h), (fun _ _ _ _ h => h), (fun _ _ _ _ h => h), (fun _ _ _ _ h => h), (fun _ _ _ _ h => h), (fun _ _ _ _ h => h), (fun v w w' hk h => by obtain ⟨g, h1, h2, h3⟩ := h; exact ⟨g, h1, h2.below hk, h3⟩), (fun v w w' hk h => by obtain ⟨g, h1, h2, h3⟩ := h; exact ⟨g, h1, h2.below hk, h3⟩), trivial⟩

set_option linter.unusedVariables false in
def mal14R (g off n cp i sh p q : Nat) (d0 d1 : Int) : List (Value → World → Prop) :=
  [fun v _ => v = .slice (some ⟨g, off, none⟩) n cp,
   fun v _ => v = .int .i64 (i : Int),
   fun v _ => v = .pointer (some ⟨g, off + i * 5, none⟩),
   fun v _ => v = .pointer (some ⟨g, off + i * 5 + 3, none⟩),
   fun v _ => v = .int .i64 d0,
   fun v _ => v = .int .i64 (sh : Int),
   fun v _ => v = .int .i64 (p : Int),
   fun v _ => v = .slice (some ⟨g, off, none⟩) n cp,
   fun v _ => v = .int .i64 (i : Int),
   fun v _ => v = .pointer (some ⟨g, off + i * 5, none⟩),
   fun v _ => v = .pointer (some ⟨g, off + i * 5 + 4, none⟩),
   fun v _ => v = .int .i64 d1,
   fun v _ => v = .int .i64 (sh : Int),
   fun v _ => v = .int .i64 (q : Int),
   fun v _ => v = .int .i64 (p : Int),
   fun v _ => v = .int .i64 (q : Int)]
theorem mal14R_kept (g off n cp i sh p q : Nat) (d0 d1 : Int) : Reg.AllKept Reg.Keeps (mal14R g off n cp i sh p q d0 d1) :=
  ⟨(fun _ _ _ _ h => h), (fun _ _ _ _ h => h), (fun _ _ _ _ h => h), (fun _ _ _ _ h => h), (fun _ _ _ _ h => h), (fun _ _ _ _ h => h), (fun _ _ _ _ h => h), (fun _ _ _ _ h => h), (fun _ _ _ _ h => h), (fun _ _ _ _ h => h), (fun _ _ _ _ h => h), (fun _ _ _ _ h => h), (fun _ _ _ _ h => h), (fun _ _ _ _ h => h), (fun _ _ _ _ h => h), (fun _ _ _ _ h => h), trivial⟩

set_option linter.unusedVariables false in
def mal19Re (hb sh p q cpp : Nat) (ap : Option Addr) : List (Value → World → Prop) :=
  [fun v _ => v = .slice (some ⟨hb, 0, none⟩) sh sh,
   fun v _ => v = .int .i64 (p : Int),
   fun v _ => v = .pointer (some ⟨hb, p, none⟩),
   fun v _ => v = .slice ap 0 cpp,
   fun v _ => v = .int .i64 0,
   fun v _ => v = .bool true,
   fun v _ => v = .bool true,
   fun v _ => v = undef,
   fun v _ => v = undef,
   fun v _ => v = undef,
   fun v _ => v = undef,
   fun v _ => v = undef,
   fun v _ => v = undef,
   fun v _ => v = undef,
   fun v _ => v = undef,
   fun v _ => v = undef,
   fun v _ => v = undef,
   fun v _ => v = undef,
   fun v _ => v = undef,
   fun v _ => v = undef,
   fun v _ => v = undef,
   fun v _ => v = undef,
   fun v _ => v = undef,
   fun v _ => v = undef,
   fun v _ => v = undef,
   fun v _ => v = undef,
   fun v _ => v = undef,
   fun v _ => v = undef,
   fun v _ => v = undef,
   fun v _ => v = .bool true]
theorem mal19Re_kept (hb sh p q cpp : Nat) (ap : Option Addr) : Reg.AllKept Reg.Keeps (mal19Re hb sh p q cpp ap) :=
  ⟨(fun _ _ _ _ h => h), (fun _ _ _ _ h => h), (fun _ _ _ _ h => h), (fun _ _ _ _ h => h), (fun _ _ _ _ h => h), (fun _ _ _ _ h => h), (fun _ _ _ _ h => h), (fun _ _ _ _ h => h), (fun _ _ _ _ h => h), (fun _ _ _ _ h => h), (fun _ _ _ _ h => h), (fun _ _ _ _ h => h), (fun _ _ _ _ h => h), (fun _ _ _ _ h => h), (fun _ _ _ _ h => h), (fun _ _ _ _ h => h), (fun _ _ _ _ h => h), (fun _ _ _ _ h => h), (fun _ _ _ _ h => h), (fun _ _ _ _ h => h), (fun _ _ _ _ h => h), (fun _ _ _ _ h => h), (fun _ _ _ _ h => h), (fun _ _ _ _ h => h), (fun _ _ _ _ h => h), (fun _ _ _ _ h => h), (fun _ _ _ _ h => h), (fun _ _ _ _ h => h), (fun _ _ _ _ h => h), (fun _ _ _ _ h => h), trivial⟩

set_option linter.unusedVariables false in
def mal19Rf (hb sh p q np cpp cqq gp op : Nat) (aq : Option Addr) : List (Value → World → Prop) :=
  [fun v _ => v = .slice (some ⟨hb, 0, none⟩) sh sh,
   fun v _ => v = .int .i64 (p : Int),
   fun v _ => v = .pointer (some ⟨hb, p, none⟩),
   fun v _ => v = .slice (some ⟨gp, op, none⟩) np cpp,
   fun v _ => v = .int .i64 (np : Int),
   fun v _ => v = .bool false,
   fun v _ => v = .bool false,
   fun v _ => v = .slice (some ⟨hb, 0, none⟩) sh sh,
   fun v _ => v = .int .i64 (q : Int),
   fun v _ => v = .pointer (some ⟨hb, q, none⟩),
   fun v _ => v = .slice aq 0 cqq,
   fun v _ => v = .int .i64 0,
   fun v _ => v = .bool false,
   fun v _ => v = .bool false,
   fun v _ => v = undef,
   fun v _ => v = undef,
   fun v _ => v = undef,
   fun v _ => v = undef,
   fun v _ => v = undef,
   fun v _ => v = undef,
   fun v _ => v = undef,
   fun v _ => v = undef,
   fun v _ => v = undef,
   fun v _ => v = undef,
   fun v _ => v = undef,
   fun v _ => v = undef,
   fun v _ => v = undef,
   fun v _ => v = undef,
   fun v _ => v = .bool false,
   fun v _ => v = .bool false]
theorem mal19Rf_kept (hb sh p q np cpp cqq gp op : Nat) (aq : Option Addr) : Reg.AllKept Reg.Keeps (mal19Rf hb sh p q np cpp cqq gp op aq) :=
  ⟨(fun _ _ _ _ h => h), (fun _ _ _ _ h => h), (fun _ _ _ _ h => h), (fun _ _ _ _ h => h), (fun _ _ _ _ h => h), (fun _ _ _ _ h => h), (fun _ _ _ _ h => h), (fun _ _ _ _ h => h), (fun _ _ _ _ h => h), (fun _ _ _ _ h => h), (fun _ _ _ _ h => h), (fun _ _ _ _ h => h), (fun _ _ _ _ h => h), (fun _ _ _ _ h => h), (fun _ _ _ _ h => h), (fun _ _ _ _ h => h), (fun _ _ _ _ h => h), (fun _ _ _ _ h => h), (fun _ _ _ _ h => h), (fun _ _ _ _ h => h), (fun _ _ _ _ h => h), (fun _ _ _ _ h => h), (fun _ _ _ _ h => h), (fun _ _ _ _ h => h), (fun _ _ _ _ h => h), (fun _ _ _ _ h => h), (fun _ _ _ _ h => h), (fun _ _ _ _ h => h), (fun _ _ _ _ h => h), (fun _ _ _ _ h => h), trivial⟩

set_option linter.unusedVariables false in
def mal19Rgt (hb sh p q np nq cpp cqq gp op gq oq : Nat) (bq bv zq zv cc : Int) : List (Value → World → Prop) :=
  [fun v _ => v = .slice (some ⟨hb, 0, none⟩) sh sh,
   fun v _ => v = .int .i64 (p : Int),
   fun v _ => v = .pointer (some ⟨hb, p, none⟩),
   fun v _ => v = .slice (some ⟨gp, op, none⟩) np cpp,
   fun v _ => v = .int .i64 (np : Int),
   fun v _ => v = .bool false,
   fun v _ => v = .bool false,
   fun v _ => v = .slice (some ⟨hb, 0, none⟩) sh sh,
   fun v _ => v = .int .i64 (q : Int),
   fun v _ => v = .pointer (some ⟨hb, q, none⟩),
   fun v _ => v = .slice (some ⟨gq, oq, none⟩) nq cqq,
   fun v _ => v = .int .i64 (nq : Int),
   fun v _ => v = .bool true,
   fun v _ => v = .bool true,
   fun v _ => v = .slice (some ⟨hb, 0, none⟩) sh sh,
   fun v _ => v = .int .i64 (q : Int),
   fun v _ => v = .pointer (some ⟨hb, q, none⟩),
   fun v _ => v = .slice (some ⟨gq, oq, none⟩) nq cqq,
   fun v _ => v = .pointer (some ⟨gq, oq, none⟩),
   fun v _ => v = .agg #[.int .u64 bq, .int .i64 bv],
   fun v _ => v = .slice (some ⟨hb, 0, none⟩) sh sh,
   fun v _ => v = .int .i64 (p : Int),
   fun v _ => v = .pointer (some ⟨hb, p, none⟩),
   fun v _ => v = .slice (some ⟨gp, op, none⟩) np cpp,
   fun v _ => v = .pointer (some ⟨gp, op, none⟩),
   fun v _ => v = .agg #[.int .u64 zq, .int .i64 zv],
   fun v _ => v = .int .i64 cc,
   fun v _ => v = .bool true,
   fun v _ => v = .bool true,
   fun v _ => v = .bool true]
theorem mal19Rgt_kept (hb sh p q np nq cpp cqq gp op gq oq : Nat) (bq bv zq zv cc : Int) : Reg.AllKept Reg.Keeps (mal19Rgt hb sh p q np nq cpp cqq gp op gq oq bq bv zq zv cc) :=
  ⟨(fun _ _ _ _ h => h), (fun _ _ _ _ h => h), (fun _ _ _ _ h => h), (fun _ _ _ _ h => h), (fun _ _ _ _ h => h), (fun _ _ _ _ h => h), (fun _ _ _ _ h => h), (fun _ _ _ _ h => h), (fun _ _ _ _ h => h), (fun _ _ _ _ h => h), (fun _ _ _ _ h => h), (fun _ _ _ _ h => h), (fun _ _ _ _ h => h), (fun _ _ _ _ h => h), (fun _ _ _ _ h => h), (fun _ _ _ _ h => h), (fun _ _ _ _ h => h), (fun _ _ _ _ h => h), (fun _ _ _ _ h => h), (fun _ _ _ _ h => h), (fun _ _ _ _ h => h), (fun _ _ _ _ h => h), (fun _ _ _ _ h => h), (fun _ _ _ _ h => h), (fun _ _ _ _ h => h), (fun _ _ _ _ h => h), (fun _ _ _ _ h => h), (fun _ _ _ _ h => h), (fun _ _ _ _ h => h), (fun _ _ _ _ h => h), trivial⟩

set_option linter.unusedVariables false in
def mal19Rgf (hb sh p q np nq cpp cqq gp op gq oq : Nat) (bq bv zq zv cc : Int) : List (Value → World → Prop) :=
  [fun v _ => v = .slice (some ⟨hb, 0, none⟩) sh sh,
   fun v _ => v = .int .i64 (p : Int),
   fun v _ => v = .pointer (some ⟨hb, p, none⟩),
   fun v _ => v = .slice (some ⟨gp, op, none⟩) np cpp,
   fun v _ => v = .int .i64 (np : Int),
   fun v _ => v = .bool false,
   fun v _ => v = .bool false,
   fun v _ => v = .slice (some ⟨hb, 0, none⟩) sh sh,
   fun v _ => v = .int .i64 (q : Int),
   fun v _ => v = .pointer (some ⟨hb, q, none⟩),
   fun v _ => v = .slice (some ⟨gq, oq, none⟩) nq cqq,
   fun v _ => v = .int .i64 (nq : Int),
   fun v _ => v = .bool true,
   fun v _ => v = .bool true,
   fun v _ => v = .slice (some ⟨hb, 0, none⟩) sh sh,
   fun v _ => v = .int .i64 (q : Int),
   fun v _ => v = .pointer (some ⟨hb, q, none⟩),
   fun v _ => v = .slice (some ⟨gq, oq, none⟩) nq cqq,
   fun v _ => v = .pointer (some ⟨gq, oq, none⟩),
   fun v _ => v = .agg #[.int .u64 bq, .int .i64 bv],
   fun v _ => v = .slice (some ⟨hb, 0, none⟩) sh sh,
   fun v _ => v = .int .i64 (p : Int),
   fun v _ => v = .pointer (some ⟨hb, p, none⟩),
   fun v _ => v = .slice (some ⟨gp, op, none⟩) np cpp,
   fun v _ => v = .pointer (some ⟨gp, op, none⟩),
   fun v _ => v = .agg #[.int .u64 zq, .int .i64 zv],
   fun v _ => v = .int .i64 cc,
   fun v _ => v = .bool false,
   fun v _ => v = .bool false,
   fun v _ => v = .bool false]
theorem mal19Rgf_kept (hb sh p q np nq cpp cqq gp op gq oq : Nat) (bq bv zq zv cc : Int) : Reg.AllKept Reg.Keeps (mal19Rgf hb sh p q np nq cpp cqq gp op gq oq bq bv zq zv cc) :=
  ⟨(fun _ _ _ _ h => h), (fun _ _ _ _ h => h), (fun _ _ _ _ h => h), (fun _ _ _ _ h => h), (fun _ _ _ _ h => h), (fun _ _ _ _ h => h), (fun _ _ _ _ h => h), (fun _ _ _ _ h => h), (fun _ _ _ _ h => h), (fun _ _ _ _ h => h), (fun _ _ _ _ h => h), (fun _ _ _ _ h => h), (fun _ _ _ _ h => h), (fun _ _ _ _ h => h), (fun _ _ _ _ h => h), (fun _ _ _ _ h => h), (fun _ _ _ _ h => h), (fun _ _ _ _ h => h), (fun _ _ _ _ h => h), (fun _ _ _ _ h => h), (fun _ _ _ _ h => h), (fun _ _ _ _ h => h), (fun _ _ _ _ h => h), (fun _ _ _ _ h => h), (fun _ _ _ _ h => h), (fun _ _ _ _ h => h), (fun _ _ _ _ h => h), (fun _ _ _ _ h => h), (fun _ _ _ _ h => h), (fun _ _ _ _ h => h), trivial⟩

set_option linter.unusedVariables false in
def mal21Rnone (ab hb sh r cr : Nat) (ar : Option Addr) : List (Value → World → Prop) :=
  [fun v _ => v = .bool true,
   fun v _ => v = .bool false,
   fun v _ => v = .bool false,
   fun v _ => v = .pointer (some ⟨ab, 0, none⟩),
   fun v _ => v = .bool false,
   fun v _ => v = .slice (some ⟨hb, 0, none⟩) sh sh,
   fun v _ => v = .int .i64 (r : Int),
   fun v _ => v = .pointer (some ⟨hb, r, none⟩),
   fun v _ => v = .slice ar 0 cr,
   fun v _ => v = .int .i64 0,
   fun v _ => v = .bool false,
   fun v _ => v = .bool false,
   fun v _ => v = .bool false,
   fun v _ => v = .bool false,
   fun v _ => v = .pointer (some ⟨ab, 0, none⟩),
   fun v _ => v = .bool false,
   fun v _ => v = .bool false,
   fun v _ => v = undef,
   fun v _ => v = undef,
   fun v _ => v = undef,
   fun v _ => v = undef,
   fun v _ => v = undef,
   fun v _ => v = undef,
   fun v _ => v = undef,
   fun v _ => v = undef,
   fun v _ => v = undef,
   fun v _ => v = undef,
   fun v _ => v = .bool false,
   fun v _ => v = .bool false]
theorem mal21Rnone_kept (ab hb sh r cr : Nat) (ar : Option Addr) : Reg.AllKept Reg.Keeps (mal21Rnone ab hb sh r cr ar) :=
  ⟨(fun _ _ _ _ h => h), (fun _ _ _ _ h => h), (fun _ _ _ _ h => h), (fun _ _ _ _ h => h), (fun _ _ _ _ h => h), (fun _ _ _ _ h => h), (fun _ _ _ _ h => h), (fun _ _ _ _ h => h), (fun _ _ _ _ h => h), (fun _ _ _ _ h => h), (fun _ _ _ _ h => h), (fun _ _ _ _ h => h), (fun _ _ _ _ h => h), (fun _ _ _ _ h => h), (fun _ _ _ _ h => h), (fun _ _ _ _ h => h), (fun _ _ _ _ h => h), (fun _ _ _ _ h => h), (fun _ _ _ _ h => h), (fun _ _ _ _ h => h), (fun _ _ _ _ h => h), (fun _ _ _ _ h => h), (fun _ _ _ _ h => h), (fun _ _ _ _ h => h), (fun _ _ _ _ h => h), (fun _ _ _ _ h => h), (fun _ _ _ _ h => h), (fun _ _ _ _ h => h), (fun _ _ _ _ h => h), trivial⟩

set_option linter.unusedVariables false in
def mal23Rnone (hb sh r cr : Nat) (ar : Option Addr) : List (Value → World → Prop) :=
  [fun v _ => v = .slice (some ⟨hb, 0, none⟩) sh sh,
   fun v _ => v = .int .i64 (r : Int),
   fun v _ => v = .slice (some ⟨hb, 0, none⟩) sh sh,
   fun v _ => v = .int .i64 (r : Int),
   fun v _ => v = .pointer (some ⟨hb, r, none⟩),
   fun v _ => v = .slice ar 0 cr,
   fun v _ => v = .slice (some ⟨hb, 0, none⟩) sh sh,
   fun v _ => v = .int .i64 (r : Int),
   fun v _ => v = .pointer (some ⟨hb, r, none⟩),
   fun v _ => v = .slice ar 0 cr,
   fun v _ => v = .int .i64 0,
   fun v _ => v = .int .i64 0,
   fun v _ => v = .slice ar 0 cr,
   fun v _ => v = .pointer (some ⟨hb, r, none⟩)]
theorem mal23Rnone_kept (hb sh r cr : Nat) (ar : Option Addr) : Reg.AllKept Reg.Keeps (mal23Rnone hb sh r cr ar) :=
  ⟨(fun _ _ _ _ h => h), (fun _ _ _ _ h => h), (fun _ _ _ _ h => h), (fun _ _ _ _ h => h), (fun _ _ _ _ h => h), (fun _ _ _ _ h => h), (fun _ _ _ _ h => h), (fun _ _ _ _ h => h), (fun _ _ _ _ h => h), (fun _ _ _ _ h => h), (fun _ _ _ _ h => h), (fun _ _ _ _ h => h), (fun _ _ _ _ h => h), (fun _ _ _ _ h => h), trivial⟩

set_option linter.unusedVariables false in
def mal21Ritem (ab hb sh r nr cr gr or_ zb : Nat) (zq zv : Int) : List (Value → World → Prop) :=
  [fun v _ => v = .bool true,
   fun v _ => v = .bool false,
   fun v _ => v = .bool false,
   fun v _ => v = .pointer (some ⟨ab, 0, none⟩),
   fun v _ => v = .bool true,
   fun v _ => v = .slice (some ⟨hb, 0, none⟩) sh sh,
   fun v _ => v = .int .i64 (r : Int),
   fun v _ => v = .pointer (some ⟨hb, r, none⟩),
   fun v _ => v = .slice (some ⟨gr, or_, none⟩) nr cr,
   fun v _ => v = .int .i64 (nr : Int),
   fun v _ => v = .bool true,
   fun v _ => v = .bool false,
   fun v _ => v = .bool false,
   fun v _ => v = .bool false,
   fun v _ => v = .pointer (some ⟨ab, 0, none⟩),
   fun v _ => v = .bool true,
   fun v _ => v = .bool true,
   fun v _ => v = .pointer (some ⟨ab, 1, none⟩),
   fun v _ => v = .agg #[.float .f64 zb, .int .i64 zv],
   fun v _ => v = .slice (some ⟨hb, 0, none⟩) sh sh,
   fun v _ => v = .int .i64 (r : Int),
   fun v _ => v = .pointer (some ⟨hb, r, none⟩),
   fun v _ => v = .slice (some ⟨gr, or_, none⟩) nr cr,
   fun v _ => v = .pointer (some ⟨gr, or_, none⟩),
   fun v _ => v = .agg #[.int .u64 zq, .int .i64 zv],
   fun v _ => v = .int .i64 0,
   fun v _ => v = .bool false,
   fun v _ => v = .bool false,
   fun v _ => v = .bool false]
theorem mal21Ritem_kept (ab hb sh r nr cr gr or_ zb : Nat) (zq zv : Int) : Reg.AllKept Reg.Keeps (mal21Ritem ab hb sh r nr cr gr or_ zb zq zv) :=
  ⟨(fun _ _ _ _ h => h), (fun _ _ _ _ h => h), (fun _ _ _ _ h => h), (fun _ _ _ _ h => h), (fun _ _ _ _ h => h), (fun _ _ _ _ h => h), (fun _ _ _ _ h => h), (fun _ _ _ _ h => h), (fun _ _ _ _ h => h), (fun _ _ _ _ h => h), (fun _ _ _ _ h => h), (fun _ _ _ _ h => h), (fun _ _ _ _ h => h), (fun _ _ _ _ h => h), (fun _ _ _ _ h => h), (fun _ _ _ _ h => h), (fun _ _ _ _ h => h), (fun _ _ _ _ h => h), (fun _ _ _ _ h => h), (fun _ _ _ _ h => h), (fun _ _ _ _ h => h), (fun _ _ _ _ h => h), (fun _ _ _ _ h => h), (fun _ _ _ _ h => h), (fun _ _ _ _ h => h), (fun _ _ _ _ h => h), (fun _ _ _ _ h => h), (fun _ _ _ _ h => h), (fun _ _ _ _ h => h), trivial⟩

set_option linter.unusedVariables false in
def mal23Ritem (hb sh r nr cr gr or_ o9 : Nat) : List (Value → World → Prop) :=
  [fun v _ => v = .slice (some ⟨hb, 0, none⟩) sh sh,
   fun v _ => v = .int .i64 (r : Int),
   fun v _ => v = .slice (some ⟨hb, 0, none⟩) sh sh,
   fun v _ => v = .int .i64 (r : Int),
   fun v _ => v = .pointer (some ⟨hb, r, none⟩),
   fun v _ => v = .slice (some ⟨gr, or_, none⟩) nr cr,
   fun v _ => v = .slice (some ⟨hb, 0, none⟩) sh sh,
   fun v _ => v = .int .i64 (r : Int),
   fun v _ => v = .pointer (some ⟨hb, r, none⟩),
   fun v _ => v = .slice (some ⟨gr, or_, none⟩) nr cr,
   fun v _ => v = .int .i64 (nr : Int),
   fun v _ => v = .int .i64 1,
   fun v _ => v = .slice (some ⟨gr, o9, none⟩) (nr - 1) (cr - 1),
   fun v _ => v = .pointer (some ⟨hb, r, none⟩)]
theorem mal23Ritem_kept (hb sh r nr cr gr or_ o9 : Nat) : Reg.AllKept Reg.Keeps (mal23Ritem hb sh r nr cr gr or_ o9) :=
  ⟨(fun _ _ _ _ h => h), (fun _ _ _ _ h => h), (fun _ _ _ _ h => h), (fun _ _ _ _ h => h), (fun _ _ _ _ h => h), (fun _ _ _ _ h => h), (fun _ _ _ _ h => h), (fun _ _ _ _ h => h), (fun _ _ _ _ h => h), (fun _ _ _ _ h => h), (fun _ _ _ _ h => h), (fun _ _ _ _ h => h), (fun _ _ _ _ h => h), (fun _ _ _ _ h => h), trivial⟩

set_option linter.unusedVariables false in
def mal18R (lo3 hb sh xb p np cpp : Nat) (ap : Option Addr) (yq x : Int) (LL : List KI) : List (Value → World → Prop) :=
  [fun v _ => v = .slice (some ⟨hb, 0, none⟩) sh sh,
   fun v _ => v = .int .i64 (p : Int),
   fun v _ => v = .slice (some ⟨hb, 0, none⟩) sh sh,
   fun v _ => v = .int .i64 (p : Int),
   fun v _ => v = .pointer (some ⟨hb, p, none⟩),
   fun v _ => v = .slice ap np cpp,
   fun v _ => v = .agg #[.int .u64 yq, .int .i64 x],
   fun v w => ∃ g c, v = .slice (some ⟨g, 0, none⟩) (np + 1) c ∧ Flat 2 w g c (np + 1) (flatR LL) ∧ lo3 ≤ g,
   fun v _ => v = .pointer (some ⟨hb, p, none⟩)]
theorem mal18R_kept (lo3 hb sh xb p np cpp : Nat) (ap : Option Addr) (yq x : Int) (LL : List KI) : Reg.AllKept Reg.Keeps (mal18R lo3 hb sh xb p np cpp ap yq x LL) :=
  ⟨(fun _ _ _ _ h => h), (fun _ _ _ _ h => h), (fun _ _ _ _ h => h), (fun _ _ _ _ h => h), (fun _ _ _ _ h => h), (fun _ _ _ _ h => h), (fun _ _ _ _ h => h), (fun v w w' hk h => by obtain ⟨g, c, h1, h2, h3⟩ := h; exact ⟨g, c, h1, h2.but (S := fun _ => False) (But.of_below hk) id, h3⟩), (fun _ _ _ _ h => h), trivial⟩

set_option maxRecDepth 20000 in
set_option maxHeartbeats 16000000 in
theorem multiAlone_any (a0 : Int) (a1 : Option Addr) (n cp : Nat) (w : World) (hOps : Ops w a1 n) :
    Calls Try.prog 3 #[.int .i64 a0, .slice a1 n cp] w fun e w' => e = .returned (.bool true) ∧ Below w.heap.size w w' := by
  have hA := awake8_any w
  have hsf := run_store_flt (P := Try.prog)
  have hr := into_rng (d := a0) (n := 16) (by decide)
  obtain ⟨j0, hj⟩ : ∃ j : Nat, into a0 16 = (j : Int) := ⟨(into a0 16).toNat, by omega⟩
  obtain ⟨sh, hkd⟩ : ∃ sh : Nat, (1 : Int) + (j0 : Int) = (sh : Int) := ⟨1 + j0, by omega⟩
  have hIn := fun w => rinto_any a0 16 w (by decide)
  rw [hj] at hIn hr
  have hk : 1 ≤ sh ∧ sh ≤ 16 := by omega
  have hleg : legal 1 (sh : Int) = 0 := legal_ok (by decide) (by omega) (by omega)
  have hN := fun W => mnew_any (sh : Int) W
  rw [hleg, if_pos rfl] at hN
  have hjb : (j0 : Int) ≤ 15 := by omega
  have HOPS := hidq (fun W (hW : Below w.heap.size w W) => hOps.below hW)
  clear hj hr hleg hOps
  go_enter Try.func3, Try.ntmps3
  go_wp2_with fail
  refine hA.mono ?_
  rintro e w1 ⟨rfl, hb1⟩
  clear hA
  go_wp2_with fail
  refine (hIn _).mono ?_
  rintro e w2 ⟨rfl, hw2⟩
  replace hw2 := hw2.symm
  subst hw2
  clear hIn
  go_wp2_with fail
  refine (hN _).mono ?_
  rintro e w3 ⟨rfl, hb3⟩
  clear hN
  obtain ⟨sb, hsb⟩ : ∃ sb, w3.heap.size = sb := ⟨_, rfl⟩
  obtain ⟨W2, hbW, hsW, hB2, hW2⟩ : ∃ W2, Below w3.heap.size w3 W2 ∧ W2.heap.size = w3.heap.size + 1 ∧ BoxAt W2 w3.heap.size [.int .i64 (sh : Int)] ∧ w3.alloc (.cells #[.int .i64 (sh : Int)] 26) = W2 := ⟨_, (Below.refl _ _).alloc (Nat.le_refl _) _, by simp, BoxAt.new w3 [.int .i64 (sh : Int)] 26, rfl⟩
  rw [hsb] at hB2 hsW
  have H2 := hidq (And.intro hB2 (And.intro ((hb1.trans (hb3.mono hb1.size)).trans (hbW.mono (by have := hb1.size; have := hb3.size; omega))) (And.intro (Nat.le_trans hb1.size hb3.size) hsW)))
  clear hB2 hbW hsW hb1 hb3
  go_wp2_with fail
  refine (new5_any _).mono ?_
  rintro e w4 ⟨rfl, hM4, hb4⟩
  obtain ⟨mb, hmb⟩ : ∃ mb, W2.heap.size = mb := ⟨_, rfl⟩
  rw [hmb] at hM4 ⊢
  obtain ⟨hB2, hbw, hs2, hsW⟩ := H2.out
  have hS4 : St w w4 sb [.int .i64 (sh : Int)] mb (fun k => k = mb) Mem.empty := ⟨hM4, fun k e => by omega, hB2.below hb4, hbw.trans (hb4.mono hbw.size)⟩
  have HT0 := hidq (show MA w sb mb w4.heap.size sh 0 (fun _ => none) (fun _ => 0) (fun _ => []) (w4.alloc (.cells (List.replicate sh (Value.slice none 0 0)).toArray 52)) from by
    have hB := BoxAt.new w4 (List.replicate sh (Value.slice none 0 0)) 52
    have hr : (List.range sh).map (fun _ => Value.slice none 0 0) = List.replicate sh (Value.slice none 0 0) := by rw [List.map_const', List.length_range]
    refine ⟨_, _, hS4.alloc _, MOk.empty, Nat.zero_le _, hS4.low.size, fun e => ?_, ?_, fun _ _ => rfl, ⟨?_, fun p _ => ⟨Nat.le_refl _, fun i h => absurd h (Nat.not_lt_zero _), Nat.le_refl _, fun j hj => ?_⟩⟩⟩
    · have := hS4.mem.lt _ e; omega
    · have := hS4.box.lt; omega
    · show BoxAt _ _ ((List.range sh).map (fun _ => Value.slice none 0 0))
      rw [hr]; exact hB
    · obtain ⟨y, hy, _⟩ := hj; cases hy)
  rw [List.toArray_replicate] at HT0
  have HK := hidq (And.intro hk (show (1 : Int) ≤ (sh : Int) ∧ (sh : Int) ≤ 16 by omega))
  have hsh0 : (0 : Int) ≤ (sh : Int) := by omega
  have hsh1 : (sh : Int) ≤ 16 := by omega
  have hmk := zerosS sh (by omega) w4
  clear hB2 hbw hs2 hsW hM4 hb4 H2 hmb hW2 hsb hS4 hkd hk hjb
  go_wp2_with fail
  obtain ⟨hb, hhb⟩ : ∃ hb, w4.heap.size = hb := ⟨_, rfl⟩
  obtain ⟨W5, hW5⟩ : ∃ W5, w4.alloc (.cells (Array.replicate sh (Value.slice none 0 0)) 52) = W5 := ⟨_, rfl⟩
  rw [hhb, hW5] at HT0 ⊢
  clear hhb hW5 hmk
  go_loopw [9] (fun s9 wr => ∃ (i : Nat) (a : Nat → Option Addr) (c : Nat → Nat) (Ls : Nat → List KI), s9 = .int .i64 (i : Int) ∧ i ≤ 20 ∧ Hid (MA w sb mb hb sh i a c Ls wr)) (fun s9 _ => 20 - (intOf s9).toNat)
  case atStart => exact ⟨0, _, _, _, rfl, Nat.zero_le _, HT0⟩
  case round =>
    clear HT0
    obtain ⟨W1, hw1⟩ : ∃ W1, W1 = wr := ⟨_, rfl⟩
    subst hw1
    obtain ⟨i, a, c, Ls, rfl, hi20, hT⟩ := hrel
    by_cases hlt : i < n ∧ i < 20
    · obtain ⟨hlt1, hlt2⟩ := hlt
      obtain ⟨O, M, hS, hM, hck, hhb, hOh, hhs, hcl, hH⟩ := hT.out
      obtain ⟨g, off, ha, hgl0, kd, pr, x, d0, d1, ⟨c0, c1, c2⟩, ⟨c3, c4⟩, hp0, hp1⟩ := HOPS.out w (Below.refl _ _) i hlt1
      subst ha
      replace c0 := (hS.low.cell (p := ⟨g, off + i * 5, none⟩) hgl0).trans c0
      replace c1 := (hS.low.cell (p := ⟨g, off + i * 5 + 1, none⟩) hgl0).trans c1
      replace c2 := (hS.low.cell (p := ⟨g, off + i * 5 + 2, none⟩) hgl0).trans c2
      replace c3 := (hS.low.cell (p := ⟨g, off + i * 5 + 3, none⟩) hgl0).trans c3
      replace c4 := (hS.low.cell (p := ⟨g, off + i * 5 + 4, none⟩) hgl0).trans c4
      have hgl := Nat.lt_of_lt_of_le hgl0 hS.low.size
      have hlt3 : (i : Int) < (n : Int) := by omega
      have hlt4 : (i : Int) < 20 := by omega
      have FC := hidq (fun W (hW : Below W1.heap.size W1 W) => (show W.cell? ⟨g, off + i * 5, none⟩ = some (.int .i64 kd) ∧ W.cell? ⟨g, off + i * 5 + 1, none⟩ = some (.int .u64 pr) ∧ W.cell? ⟨g, off + i * 5 + 2, none⟩ = some (.int .i64 x) ∧ W.cell? ⟨g, off + i * 5 + 3, none⟩ = some (.int .i64 d0) ∧ W.cell? ⟨g, off + i * 5 + 4, none⟩ = some (.int .i64 d1) from
        ⟨(hW.cell (p := ⟨g, off + i * 5, none⟩) hgl).trans c0, (hW.cell (p := ⟨g, off + i * 5 + 1, none⟩) hgl).trans c1, (hW.cell (p := ⟨g, off + i * 5 + 2, none⟩) hgl).trans c2, (hW.cell (p := ⟨g, off + i * 5 + 3, none⟩) hgl).trans c3, (hW.cell (p := ⟨g, off + i * 5 + 4, none⟩) hgl).trans c4⟩))
      obtain ⟨hkk, hy⟩ := own1_k kd x
      have hOw0 := fun W => own6_any 1 kd pr x d0 d1 W
      have hTo0 := fun W => told_any pr x W hp0 hp1
      have hnf := nf_lt hp1
      have hqe : ni (cbits (nf pr)) = ni (mkKI (nf pr) x).b := by rw [mkKI_b hnf]
      rw [hy] at hOw0
      generalize ownK 1 kd = kk at *
      obtain ⟨yq, hq⟩ : ∃ q, ni (cbits (nf pr)) = q := ⟨_, rfl⟩
      rw [hq] at hTo0 hqe
      have hOw := hidq hOw0
      have hTo := hidq hTo0
      obtain ⟨lo, hlo⟩ : ∃ lo, W1.heap.size = lo := ⟨_, rfl⟩
      have HLO := hidq hlo
      have HB := hidq (And.intro hlt1 hlt2)
      have HQ := hidq (And.intro hq (And.intro hqe hnf))
      have HGL := hidq hgl0
      have HKK := hidq hkk
      clear hS hM hck hhb hOh hhs hcl hH c0 c1 c2 c3 c4 hp0 hp1 hkk hy hOw0 hTo0 hq hqe hnf hgl hgl0 hlo
      go_wp2_with fail
      have hrefl : ∀ w : World, Reg.Keeps w w := Reg.Keeps.refl
      refine Reg.wp_region_props_tail 13 (Reg.ofList (mal12R lo g off n cp i kd pr x d0 d1 kk yq)) Reg.Keeps (fun _ w => Reg.Keeps W1 w) (by kernel_rfl) (by kernel_rfl) (by kernel_rfl) (Reg.AllKept.at _ (mal12R_kept lo g off n cp i kd pr x d0 d1 kk yq)) hrefl (Reg.Keeps.drewN (Reg.Keeps.refl _) 1) ⟨?_, ?_, ?_, ?_, ?_, ?_, ?_, ?_, ?_, ?_, ?_, ?_, ?_, trivial⟩ ?_
      · refine Reg.StepAt.plain (i := 0) rfl ?_
        intro L ev w hI hk hp hA
        have e1 : ev (.tmp 1) = .slice (some ⟨g, off, none⟩) n cp := hA.oldNone 1 (by kernel_rfl)
        have hcc := hA.const
        clear hA hp
        refine Reg.out_value (v := .slice (some ⟨g, off, none⟩) n cp) ?_ ⟨rfl, hrefl _, hI⟩
        go_simp
      · refine Reg.StepAt.plain (i := 1) rfl ?_
        intro L ev w hI hk hp hA
        have e9 : ev (.tmp 9) = .int .i64 (i : Int) := hA.oldNone 9 (by kernel_rfl)
        have hcc := hA.const
        clear hA hp
        refine Reg.out_value (v := .int .i64 (i : Int)) ?_ ⟨rfl, hrefl _, hI⟩
        go_simp
      · refine Reg.StepAt.plain (i := 2) rfl ?_
        intro L ev w hI hk hp hA
        have e41 : ev (.tmp 41) = .slice (some ⟨g, off, none⟩) n cp := hA.val 0 _ 41 rfl (hp ⟨0, .data⟩ (by simp) rfl) rfl
        have e42 : ev (.tmp 42) = .int .i64 (i : Int) := hA.val 1 _ 42 rfl (hp ⟨1, .data⟩ (by simp) rfl) rfl
        have hcc := hA.const
        clear hA hp
        refine Reg.out_value (v := .pointer (some ⟨g, off + i * 5, none⟩)) ?_ ⟨rfl, hrefl _, hI⟩
        go_simp
      · refine Reg.StepAt.plain (i := 3) rfl ?_
        intro L ev w hI hk hp hA
        have e43 : ev (.tmp 43) = .pointer (some ⟨g, off + i * 5, none⟩) := hA.val 2 _ 43 rfl (hp ⟨2, .data⟩ (by simp) rfl) rfl
        have hcc := hA.const
        clear hA hp
        obtain ⟨f0, f1, f2, f3, f4⟩ := FC.out w hI
        refine Reg.out_value (v := .agg #[.int .i64 kd, .int .u64 pr, .int .i64 x, .int .i64 d0, .int .i64 d1]) ?_ ⟨rfl, hrefl _, hI⟩
        go_simp
      · refine Reg.StepAt.plain (i := 4) rfl ?_
        intro L ev w hI hk hp hA
        have e44 : ev (.tmp 44) = .agg #[.int .i64 kd, .int .u64 pr, .int .i64 x, .int .i64 d0, .int .i64 d1] := hA.val 3 _ 44 rfl (hp ⟨3, .data⟩ (by simp) rfl) rfl
        have hcc := hA.const
        have hcf := hA.func
        clear hA hp
        refine Reg.out_call (f := 11) (args := #[.int .i64 1, .agg #[.int .i64 kd, .int .u64 pr, .int .i64 x, .int .i64 d0, .int .i64 d1]]) (w0 := w) ?_ ?_
        · go_simp
        refine (hOw.out w).mono ?_
        rintro e w' ⟨rfl, hb'⟩
        exact ⟨_, rfl, rfl, hb', Reg.Keeps.trans hI hb'⟩
      · refine Reg.StepAt.plain (i := 5) rfl ?_
        intro L ev w hI hk hp hA
        have e1 : ev (.tmp 1) = .slice (some ⟨g, off, none⟩) n cp := hA.oldNone 1 (by kernel_rfl)
        have hcc := hA.const
        clear hA hp
        refine Reg.out_value (v := .slice (some ⟨g, off, none⟩) n cp) ?_ ⟨rfl, hrefl _, hI⟩
        go_simp
      · refine Reg.StepAt.plain (i := 6) rfl ?_
        intro L ev w hI hk hp hA
        have e9 : ev (.tmp 9) = .int .i64 (i : Int) := hA.oldNone 9 (by kernel_rfl)
        have hcc := hA.const
        clear hA hp
        refine Reg.out_value (v := .int .i64 (i : Int)) ?_ ⟨rfl, hrefl _, hI⟩
        go_simp
      · refine Reg.StepAt.plain (i := 7) rfl ?_
        intro L ev w hI hk hp hA
        have e46 : ev (.tmp 46) = .slice (some ⟨g, off, none⟩) n cp := hA.val 5 _ 46 rfl (hp ⟨5, .data⟩ (by simp) rfl) rfl
        have e47 : ev (.tmp 47) = .int .i64 (i : Int) := hA.val 6 _ 47 rfl (hp ⟨6, .data⟩ (by simp) rfl) rfl
        have hcc := hA.const
        clear hA hp
        refine Reg.out_value (v := .pointer (some ⟨g, off + i * 5, none⟩)) ?_ ⟨rfl, hrefl _, hI⟩
        go_simp
      · refine Reg.StepAt.plain (i := 8) rfl ?_
        intro L ev w hI hk hp hA
        have e48 : ev (.tmp 48) = .pointer (some ⟨g, off + i * 5, none⟩) := hA.val 7 _ 48 rfl (hp ⟨7, .data⟩ (by simp) rfl) rfl
        have hcc := hA.const
        clear hA hp
        refine Reg.out_value (v := .pointer (some ⟨g, off + i * 5 + 1, none⟩)) ?_ ⟨rfl, hrefl _, hI⟩
        go_simp
      · refine Reg.StepAt.plain (i := 9) rfl ?_
        intro L ev w hI hk hp hA
        have e49 : ev (.tmp 49) = .pointer (some ⟨g, off + i * 5 + 1, none⟩) := hA.val 8 _ 49 rfl (hp ⟨8, .data⟩ (by simp) rfl) rfl
        have hcc := hA.const
        clear hA hp
        obtain ⟨f0, f1, f2, f3, f4⟩ := FC.out w hI
        refine Reg.out_value (v := .agg #[.int .u64 pr, .int .i64 x]) ?_ ⟨rfl, hrefl _, hI⟩
        go_simp
      · refine Reg.StepAt.plain (i := 10) rfl ?_
        intro L ev w hI hk hp hA
        have e50 : ev (.tmp 50) = .agg #[.int .u64 pr, .int .i64 x] := hA.val 9 _ 50 rfl (hp ⟨9, .data⟩ (by simp) rfl) rfl
        have hcc := hA.const
        have hcf := hA.func
        clear hA hp
        refine Reg.out_call (f := 12) (args := #[.agg #[.int .u64 pr, .int .i64 x]]) (w0 := w) ?_ ?_
        · go_simp
        refine (hTo.out w).mono ?_
        rintro e w' ⟨rfl, hb'⟩
        exact ⟨_, rfl, rfl, hb', Reg.Keeps.trans hI hb'⟩
      · refine Reg.StepAt.plain (i := 11) rfl ?_
        intro L ev w hI hk hp hA
        have hcc := hA.const
        clear hA hp
        refine Reg.out_new (v := .pointer (some ⟨w.heap.size, 0, none⟩)) (w' := w.alloc (.cells #[.int .i64 0, .float .f64 0, .int .i64 0, .int .i64 0, .int .i64 0] 38)) ?_ ⟨⟨w.heap.size, rfl, BoxAt.new w [.int .i64 0, .float .f64 0, .int .i64 0, .int .i64 0, .int .i64 0] 38, by have h1 : W1.heap.size ≤ w.heap.size := hI.size; have h2 := HLO.out; omega⟩, (Reg.Keeps.refl _).alloc _, Reg.Keeps.alloc hI _⟩
        go_simp
      · refine Reg.StepAt.plain (i := 12) rfl ?_
        intro L ev w hI hk hp hA
        have hcc := hA.const
        clear hA hp
        refine Reg.out_new (v := .pointer (some ⟨w.heap.size, 0, none⟩)) (w' := w.alloc (.cells #[.int .u64 0, .int .i64 0] 45)) ?_ ⟨⟨w.heap.size, rfl, BoxAt.new w [.int .u64 0, .int .i64 0] 45, by have h1 : W1.heap.size ≤ w.heap.size := hI.size; have h2 := HLO.out; omega⟩, (Reg.Keeps.refl _).alloc _, Reg.Keeps.alloc hI _⟩
        go_simp
      intro act wz hI hF
      have g41 : act.eval (.tmp 41) = .slice (some ⟨g, off, none⟩) n cp := hF.val 0 _ 41 rfl (by kernel_rfl) rfl
      have g42 : act.eval (.tmp 42) = .int .i64 (i : Int) := hF.val 1 _ 42 rfl (by kernel_rfl) rfl
      have g43 : act.eval (.tmp 43) = .pointer (some ⟨g, off + i * 5, none⟩) := hF.val 2 _ 43 rfl (by kernel_rfl) rfl
      have g44 : act.eval (.tmp 44) = .agg #[.int .i64 kd, .int .u64 pr, .int .i64 x, .int .i64 d0, .int .i64 d1] := hF.val 3 _ 44 rfl (by kernel_rfl) rfl
      have g45 : act.eval (.tmp 45) = .agg #[.int .i64 kk, .float .f64 (nf pr), .int .i64 x, .int .i64 d0, .int .i64 d1] := hF.val 4 _ 45 rfl (by kernel_rfl) rfl
      have g46 : act.eval (.tmp 46) = .slice (some ⟨g, off, none⟩) n cp := hF.val 5 _ 46 rfl (by kernel_rfl) rfl
      have g47 : act.eval (.tmp 47) = .int .i64 (i : Int) := hF.val 6 _ 47 rfl (by kernel_rfl) rfl
      have g48 : act.eval (.tmp 48) = .pointer (some ⟨g, off + i * 5, none⟩) := hF.val 7 _ 48 rfl (by kernel_rfl) rfl
      have g49 : act.eval (.tmp 49) = .pointer (some ⟨g, off + i * 5 + 1, none⟩) := hF.val 8 _ 49 rfl (by kernel_rfl) rfl
      have g50 : act.eval (.tmp 50) = .agg #[.int .u64 pr, .int .i64 x] := hF.val 9 _ 50 rfl (by kernel_rfl) rfl
      have g51 : act.eval (.tmp 51) = .agg #[.int .u64 yq, .int .i64 x] := hF.val 10 _ 51 rfl (by kernel_rfl) rfl
      have g10 : (fun v w => ∃ b, v = .pointer (some ⟨b, 0, none⟩) ∧ BoxAt w b [.int .i64 0, .float .f64 0, .int .i64 0, .int .i64 0, .int .i64 0] ∧ lo ≤ b) (act.eval (.tmp 10)) wz := hF.val 11 _ 10 rfl (by kernel_rfl) rfl
      have g11 : (fun v w => ∃ b, v = .pointer (some ⟨b, 0, none⟩) ∧ BoxAt w b [.int .u64 0, .int .i64 0] ∧ lo ≤ b) (act.eval (.tmp 11)) wz := hF.val 12 _ 11 rfl (by kernel_rfl) rfl
      have hact := hF.actHead [41, 42, 43, 44, 45, 46, 47, 48, 49, 50, 51, 10, 11] (by kernel_rfl)
      clear hF
      simp only [List.foldl_cons, List.foldl_nil] at hact
      rw [g41, g42, g43, g44, g45, g46, g47, g48, g49, g50, g51] at hact
      clear g41 g42 g43 g44 g45 g46 g47 g48 g49 g50 g51
      generalize act.eval (.tmp 10) = u10 at hact g10
      generalize act.eval (.tmp 11) = u11 at hact g11
      simp only [List.setIfInBounds_toArray, List.set_cons_succ, List.set_cons_zero] at hact
      subst hact
      simp only [List.drop_succ_cons, List.drop_zero]
      obtain ⟨ob, rfl, hOB, hob⟩ := g10
      obtain ⟨xb, rfl, hXB, hxb⟩ := g11
      have hIz : Below W1.heap.size W1 wz := hI
      have hlo := HLO.out
      have hne : ob ≠ xb := fun e => by
        have q1 := (hOB.get 0 _ rfl).1
        have q2 := (hXB.get 0 _ rfl).1
        rw [e, q2] at q1
        cases q1
      clear hI
      refine wpList_store_box wz rfl 38 (.tmp 10) (.tmp 45) rfl rfl ob [.int .i64 kk, .float .f64 (nf pr), .int .i64 x, .int .i64 d0, .int .i64 d1] rfl rfl (by kernel_rfl) rfl hOB rfl ?_
      intro W6 hOB6 hb6
      have hXB6 := hXB.but hb6 (fun e => hne e.symm)
      have hI6 := hIz.trans (hb6.below hIz.size (fun j e => by omega))
      clear hb6 hOB hXB hIz
      refine wpList_store_box W6 rfl 45 (.tmp 11) (.tmp 51) rfl rfl xb [.int .u64 yq, .int .i64 x] rfl rfl (by kernel_rfl) rfl hXB6 rfl ?_
      intro W7 hXB7 hb7
      have hOB7 := hOB6.but hb7 hne
      have hI7 := hI6.trans (hb7.below hI6.size (fun j e => by omega))
      clear hb7 hOB6 hXB6 hI6 hne
      obtain ⟨O, M, hS, hM, hck, hhb, hOh, hhs, hcl, hH⟩ := hT.out
      obtain ⟨hlt1, hlt2⟩ := HB.out
      obtain ⟨hq, hqe, hnf⟩ := HQ.out
      have hS7 := hS.below hI7
      have hOo : ¬ O ob := fun e => by have := hS.mem.lt _ e; omega
      have hOx : ¬ O xb := fun e => by have := hS.mem.lt _ e; omega
      have hrp := into_rng (d := d0) (n := (sh : Int)) HK.out.2.1
      have hrq := into_rng (d := d1) (n := (sh : Int)) HK.out.2.1
      obtain ⟨p, hp⟩ : ∃ p : Nat, into d0 (sh : Int) = (p : Int) := ⟨(into d0 (sh : Int)).toNat, by omega⟩
      obtain ⟨q, hq2⟩ : ∃ q : Nat, into d1 (sh : Int) = (q : Int) := ⟨(into d1 (sh : Int)).toNat, by omega⟩
      have hpl : p < sh := by omega
      have hql : q < sh := by omega
      have hal := aloneM_any (sh : Int) (mstep_is (sh : Int) HK.out.2) (mFine (sh : Int)) mb O M kk (nf pr) x d0 d1 3 W7 hS7.mem ⟨hM, fok_new kk (nf pr) x d0 d1 (HKK.out.imp (fun e => ⟨e, hnf⟩) id)⟩ (by decide) (by omega)
      have hcl2 := alone_clk (mFine (sh : Int)) 3 M (Fr.of kk (nf pr) x d0 d1)
      obtain ⟨M', A, L', ha, hM', hL', hway⟩ := m_way (pr := nf pr) x d0 d1 HK.out.1 hp hq2 hpl hql hM (fun j hj => ⟨hcl j hj, (hH.row j hj).1⟩) (by omega) HKK.out
      rw [show (3 : Int).toNat = 3 from rfl, ha] at hal
      rw [ha] at hcl2
      have hck2 : M'.clock ≤ M.clock + 3 := hcl2
      have HAl := hidq hal
      have hr0 := (hS7.box.get 0 _ rfl).1
      have hsl := hS7.box.lt
      have o0 := (hOB7.get 0 _ rfl).1
      have o1 := (hOB7.get 1 _ rfl).1
      have o2 := (hOB7.get 2 _ rfl).1
      have o3 := (hOB7.get 3 _ rfl).1
      have o4 := (hOB7.get 4 _ rfl).1
      have hol := hOB7.lt
      have HX := hidq (fun w8 O8 (hM8 : MemAt w8 mb O8 M') (hG8 : Grown O W7 w8 O8) (hB8 : But O W7 w8) => (show BoxAt w8 ob [.int .i64 kk, .float .f64 (nf pr), .int .i64 x, .int .i64 d0, .int .i64 d1] ∧ BoxAt w8 xb [.int .u64 yq, .int .i64 x] ∧ St w w8 sb [.int .i64 (sh : Int)] mb O8 M' ∧ HT w hb sh i a c Ls O8 w8 ∧ ¬ O8 hb ∧ W1.heap.size ≤ w8.heap.size ∧ (∀ W, Below w8.heap.size w8 W → W.cell? ⟨g, off + i * 5 + 3, none⟩ = some (.int .i64 d0) ∧ W.cell? ⟨g, off + i * 5 + 4, none⟩ = some (.int .i64 d1)) from by
        have s7 := hI7.size
        refine ⟨hOB7.but hB8 hOo, hXB7.but hB8 hOx, hS7.call hM8 hG8 hB8, ⟨?_, fun j hj => ?_⟩, fun e => ?_, Nat.le_trans s7 hB8.size, fun W hW => ?_⟩
        · exact (hH.box.below hI7).but hB8 hOh
        · obtain ⟨r1, r2, r3, r4⟩ := hH.row j hj
          refine ⟨r1, (r2.below hI7).but hB8 (fun b hb' => (r4 b hb').2.2.2), r3, fun b hb' => ?_⟩
          obtain ⟨b1, b2, b3, b4⟩ := r4 b hb'
          refine ⟨b1, by have := hB8.size; omega, b3, fun e => ?_⟩
          rcases hG8 _ e with z | z
          · exact b4 z
          · omega
        · rcases hG8 _ e with z | z
          · exact hOh z
          · have := hH.box.lt; omega
        · have hgl := HGL.out
          have hlow := hS.low.size
          have f := FC.out W7 hI7
          have hn : ¬ O g := fun e => by have := hS.own _ e; omega
          have e3 := (hB8.cell (p := ⟨g, off + i * 5 + 3, none⟩) (by show g < _; omega) hn).trans f.2.2.2.1
          have e4 := (hB8.cell (p := ⟨g, off + i * 5 + 4, none⟩) (by show g < _; omega) hn).trans f.2.2.2.2
          exact ⟨(hW.cell (p := ⟨g, off + i * 5 + 3, none⟩) (by show g < _; have := hB8.size; omega)).trans e3, (hW.cell (p := ⟨g, off + i * 5 + 4, none⟩) (by show g < _; have := hB8.size; omega)).trans e4⟩))
      have HW := hidq (And.intro hway (And.intro hM' (And.intro hL' (And.intro hck2 hck))))
      have HPQ := hidq (And.intro hp (And.intro hq2 (And.intro hpl hql)))
      have HLT := hidq (And.intro hlt1 hlt2)
      have HNF := hidq (And.intro hq (And.intro hqe hnf))
      have HHB := hidq (And.intro hhb hhs)
      clear hS hM hck hhb hOh hhs hcl hH hlt1 hlt2 hq hqe hnf hS7 hOo hOx hrp hrq hp hq2 hpl hql hal hcl2 ha hM' hL' hway hck2 hOB7 hXB7 hI7 hob hxb hlo HLO HB HQ HKK HGL FC hOw hTo hT HOPS
      go_wp2_with fail
      refine HAl.out.mono ?_
      rintro e w8 ⟨rfl, O8, hM8, hG8, hB8⟩
      obtain ⟨hOB8, hXB8, hS8, hH8, hO8, hz8, hFC8⟩ := HX.out w8 O8 hM8 hG8 hB8
      clear HX HAl hM8 hG8 hB8 hr0 hsl o0 o1 o2 o3 o4 hol
      go_wp2_with fail
      obtain ⟨W9, hW9⟩ : ∃ W9, w8.alloc (.cells #[.bool A.ok, .float .f64 A.pri, .int .i64 A.val, .int .i64 A.n] 48) = W9 := ⟨_, rfl⟩
      obtain ⟨ab, hab⟩ : ∃ ab, w8.heap.size = ab := ⟨_, rfl⟩
      have hb9 : Below w8.heap.size w8 W9 := by rw [← hW9]; exact (Below.refl _ _).alloc (Nat.le_refl _) _
      have hA9 : BoxAt W9 ab [.bool A.ok, .float .f64 A.pri, .int .i64 A.val, .int .i64 A.n] := by rw [← hW9, ← hab]; exact BoxAt.new w8 [.bool A.ok, .float .f64 A.pri, .int .i64 A.val, .int .i64 A.n] 48
      have hz9 : ab + 1 = W9.heap.size := by rw [← hW9, ← hab]; simp
      rw [hW9, hab]
      have hI := hidq (fun W => rinto_any d0 (sh : Int) W (by omega))
      have hJ := hidq (fun W => rinto_any d1 (sh : Int) W (by omega))
      rw [HPQ.out.1] at hI
      rw [HPQ.out.2.1] at hJ
      have hIP := hI
      have hIQ := hJ
      have FC9 := hidq (fun W (hW : Below W9.heap.size W9 W) => hFC8 W (hb9.trans (hW.mono hb9.size)))
      obtain ⟨hp1, hp2⟩ : (p : Int) ≤ 100 ∧ (q : Int) ≤ 100 := by have := HPQ.out; omega
      have HA9 := hidq (And.intro hA9 (And.intro hb9 (And.intro hz9 hab)))
      have HM8 := hidq (And.intro hOB8 (And.intro hXB8 (And.intro hS8 (And.intro hH8 (And.intro hO8 hz8)))))
      clear hI hJ hW9 hab hb9 hA9 hz9 hFC8 hOB8 hXB8 hS8 hH8 hO8 hz8
      have hrefl : ∀ w : World, Reg.Keeps w w := Reg.Keeps.refl
      refine Reg.wp_region_props (Reg.ofList (mal14R g off n cp i sh p q d0 d1)) Reg.Keeps (fun _ w => Reg.Keeps W9 w) (by kernel_rfl) (by kernel_rfl) (Reg.AllKept.at _ (mal14R_kept g off n cp i sh p q d0 d1)) hrefl (Reg.Keeps.drewN (Reg.Keeps.refl _) 1) ⟨?_, ?_, ?_, ?_, ?_, ?_, ?_, ?_, ?_, ?_, ?_, ?_, ?_, ?_, ?_, ?_, trivial⟩ ?_
      · refine Reg.StepAt.plain (i := 0) rfl ?_
        intro L ev w hI hk hp hA
        have e1 : ev (.tmp 1) = .slice (some ⟨g, off, none⟩) n cp := hA.oldNone 1 (by kernel_rfl)
        have hcc := hA.const
        clear hA hp
        refine Reg.out_value (v := .slice (some ⟨g, off, none⟩) n cp) ?_ ⟨rfl, hrefl _, hI⟩
        go_simp
      · refine Reg.StepAt.plain (i := 1) rfl ?_
        intro L ev w hI hk hp hA
        have e9 : ev (.tmp 9) = .int .i64 (i : Int) := hA.oldNone 9 (by kernel_rfl)
        have hcc := hA.const
        clear hA hp
        refine Reg.out_value (v := .int .i64 (i : Int)) ?_ ⟨rfl, hrefl _, hI⟩
        go_simp
      · refine Reg.StepAt.plain (i := 2) rfl ?_
        intro L ev w hI hk hp hA
        have e60 : ev (.tmp 60) = .slice (some ⟨g, off, none⟩) n cp := hA.val 0 _ 60 rfl (hp ⟨0, .data⟩ (by simp) rfl) rfl
        have e61 : ev (.tmp 61) = .int .i64 (i : Int) := hA.val 1 _ 61 rfl (hp ⟨1, .data⟩ (by simp) rfl) rfl
        have hcc := hA.const
        clear hA hp
        refine Reg.out_value (v := .pointer (some ⟨g, off + i * 5, none⟩)) ?_ ⟨rfl, hrefl _, hI⟩
        go_simp
      · refine Reg.StepAt.plain (i := 3) rfl ?_
        intro L ev w hI hk hp hA
        have e62 : ev (.tmp 62) = .pointer (some ⟨g, off + i * 5, none⟩) := hA.val 2 _ 62 rfl (hp ⟨2, .data⟩ (by simp) rfl) rfl
        have hcc := hA.const
        clear hA hp
        refine Reg.out_value (v := .pointer (some ⟨g, off + i * 5 + 3, none⟩)) ?_ ⟨rfl, hrefl _, hI⟩
        go_simp
      · refine Reg.StepAt.plain (i := 4) rfl ?_
        intro L ev w hI hk hp hA
        have e63 : ev (.tmp 63) = .pointer (some ⟨g, off + i * 5 + 3, none⟩) := hA.val 3 _ 63 rfl (hp ⟨3, .data⟩ (by simp) rfl) rfl
        have hcc := hA.const
        clear hA hp
        obtain ⟨f3, f4⟩ := FC9.out w hI
        refine Reg.out_value (v := .int .i64 d0) ?_ ⟨rfl, hrefl _, hI⟩
        go_simp
      · refine Reg.StepAt.plain (i := 5) rfl ?_
        intro L ev w hI hk hp hA
        have e0 : ev (.tmp 0) = .int .i64 (sh : Int) := hA.oldNone 0 (by kernel_rfl)
        have hcc := hA.const
        clear hA hp
        refine Reg.out_value (v := .int .i64 (sh : Int)) ?_ ⟨rfl, hrefl _, hI⟩
        go_simp
      · refine Reg.StepAt.plain (i := 6) rfl ?_
        intro L ev w hI hk hp hA
        have e64 : ev (.tmp 64) = .int .i64 d0 := hA.val 4 _ 64 rfl (hp ⟨4, .data⟩ (by simp) rfl) rfl
        have e65 : ev (.tmp 65) = .int .i64 (sh : Int) := hA.val 5 _ 65 rfl (hp ⟨5, .data⟩ (by simp) rfl) rfl
        have hcc := hA.const
        have hcf := hA.func
        clear hA hp
        refine Reg.out_call (f := 8) (args := #[.int .i64 d0, .int .i64 (sh : Int)]) (w0 := w) ?_ ?_
        · go_simp
        refine (hIP.out w).mono ?_
        rintro e w' ⟨rfl, rfl⟩
        exact ⟨_, rfl, rfl, hrefl _, hI⟩
      · refine Reg.StepAt.plain (i := 7) rfl ?_
        intro L ev w hI hk hp hA
        have e1 : ev (.tmp 1) = .slice (some ⟨g, off, none⟩) n cp := hA.oldNone 1 (by kernel_rfl)
        have hcc := hA.const
        clear hA hp
        refine Reg.out_value (v := .slice (some ⟨g, off, none⟩) n cp) ?_ ⟨rfl, hrefl _, hI⟩
        go_simp
      · refine Reg.StepAt.plain (i := 8) rfl ?_
        intro L ev w hI hk hp hA
        have e9 : ev (.tmp 9) = .int .i64 (i : Int) := hA.oldNone 9 (by kernel_rfl)
        have hcc := hA.const
        clear hA hp
        refine Reg.out_value (v := .int .i64 (i : Int)) ?_ ⟨rfl, hrefl _, hI⟩
        go_simp
      · refine Reg.StepAt.plain (i := 9) rfl ?_
        intro L ev w hI hk hp hA
        have e67 : ev (.tmp 67) = .slice (some ⟨g, off, none⟩) n cp := hA.val 7 _ 67 rfl (hp ⟨7, .data⟩ (by simp) rfl) rfl
        have e68 : ev (.tmp 68) = .int .i64 (i : Int) := hA.val 8 _ 68 rfl (hp ⟨8, .data⟩ (by simp) rfl) rfl
        have hcc := hA.const
        clear hA hp
        refine Reg.out_value (v := .pointer (some ⟨g, off + i * 5, none⟩)) ?_ ⟨rfl, hrefl _, hI⟩
        go_simp
      · refine Reg.StepAt.plain (i := 10) rfl ?_
        intro L ev w hI hk hp hA
        have e69 : ev (.tmp 69) = .pointer (some ⟨g, off + i * 5, none⟩) := hA.val 9 _ 69 rfl (hp ⟨9, .data⟩ (by simp) rfl) rfl
        have hcc := hA.const
        clear hA hp
        refine Reg.out_value (v := .pointer (some ⟨g, off + i * 5 + 4, none⟩)) ?_ ⟨rfl, hrefl _, hI⟩
        go_simp
      · refine Reg.StepAt.plain (i := 11) rfl ?_
        intro L ev w hI hk hp hA
        have e70 : ev (.tmp 70) = .pointer (some ⟨g, off + i * 5 + 4, none⟩) := hA.val 10 _ 70 rfl (hp ⟨10, .data⟩ (by simp) rfl) rfl
        have hcc := hA.const
        clear hA hp
        obtain ⟨f3, f4⟩ := FC9.out w hI
        refine Reg.out_value (v := .int .i64 d1) ?_ ⟨rfl, hrefl _, hI⟩
        go_simp
      · refine Reg.StepAt.plain (i := 12) rfl ?_
        intro L ev w hI hk hp hA
        have e0 : ev (.tmp 0) = .int .i64 (sh : Int) := hA.oldNone 0 (by kernel_rfl)
        have hcc := hA.const
        clear hA hp
        refine Reg.out_value (v := .int .i64 (sh : Int)) ?_ ⟨rfl, hrefl _, hI⟩
        go_simp
      · refine Reg.StepAt.plain (i := 13) rfl ?_
        intro L ev w hI hk hp hA
        have e71 : ev (.tmp 71) = .int .i64 d1 := hA.val 11 _ 71 rfl (hp ⟨11, .data⟩ (by simp) rfl) rfl
        have e72 : ev (.tmp 72) = .int .i64 (sh : Int) := hA.val 12 _ 72 rfl (hp ⟨12, .data⟩ (by simp) rfl) rfl
        have hcc := hA.const
        have hcf := hA.func
        clear hA hp
        refine Reg.out_call (f := 8) (args := #[.int .i64 d1, .int .i64 (sh : Int)]) (w0 := w) ?_ ?_
        · go_simp
        refine (hIQ.out w).mono ?_
        rintro e w' ⟨rfl, rfl⟩
        exact ⟨_, rfl, rfl, hrefl _, hI⟩
      · refine Reg.StepAt.plain (i := 14) rfl ?_
        intro L ev w hI hk hp hA
        have e66 : ev (.tmp 66) = .int .i64 (p : Int) := hA.val 6 _ 66 rfl (hp ⟨6, .data⟩ (by simp) rfl) rfl
        have hcc := hA.const
        clear hA hp
        refine Reg.out_value (v := .int .i64 (p : Int)) ?_ ⟨rfl, hrefl _, hI⟩
        go_simp
      · refine Reg.StepAt.plain (i := 15) rfl ?_
        intro L ev w hI hk hp hA
        have e73 : ev (.tmp 73) = .int .i64 (q : Int) := hA.val 13 _ 73 rfl (hp ⟨13, .data⟩ (by simp) rfl) rfl
        have hcc := hA.const
        clear hA hp
        refine Reg.out_value (v := .int .i64 (q : Int)) ?_ ⟨rfl, hrefl _, hI⟩
        go_simp
      intro L act wz hall hI hF
      have g60 : act.eval (.tmp 60) = .slice (some ⟨g, off, none⟩) n cp := hF.val 0 _ 60 rfl (hall 0 (by simp)) rfl
      have g61 : act.eval (.tmp 61) = .int .i64 (i : Int) := hF.val 1 _ 61 rfl (hall 1 (by simp)) rfl
      have g62 : act.eval (.tmp 62) = .pointer (some ⟨g, off + i * 5, none⟩) := hF.val 2 _ 62 rfl (hall 2 (by simp)) rfl
      have g63 : act.eval (.tmp 63) = .pointer (some ⟨g, off + i * 5 + 3, none⟩) := hF.val 3 _ 63 rfl (hall 3 (by simp)) rfl
      have g64 : act.eval (.tmp 64) = .int .i64 d0 := hF.val 4 _ 64 rfl (hall 4 (by simp)) rfl
      have g65 : act.eval (.tmp 65) = .int .i64 (sh : Int) := hF.val 5 _ 65 rfl (hall 5 (by simp)) rfl
      have g66 : act.eval (.tmp 66) = .int .i64 (p : Int) := hF.val 6 _ 66 rfl (hall 6 (by simp)) rfl
      have g67 : act.eval (.tmp 67) = .slice (some ⟨g, off, none⟩) n cp := hF.val 7 _ 67 rfl (hall 7 (by simp)) rfl
      have g68 : act.eval (.tmp 68) = .int .i64 (i : Int) := hF.val 8 _ 68 rfl (hall 8 (by simp)) rfl
      have g69 : act.eval (.tmp 69) = .pointer (some ⟨g, off + i * 5, none⟩) := hF.val 9 _ 69 rfl (hall 9 (by simp)) rfl
      have g70 : act.eval (.tmp 70) = .pointer (some ⟨g, off + i * 5 + 4, none⟩) := hF.val 10 _ 70 rfl (hall 10 (by simp)) rfl
      have g71 : act.eval (.tmp 71) = .int .i64 d1 := hF.val 11 _ 71 rfl (hall 11 (by simp)) rfl
      have g72 : act.eval (.tmp 72) = .int .i64 (sh : Int) := hF.val 12 _ 72 rfl (hall 12 (by simp)) rfl
      have g73 : act.eval (.tmp 73) = .int .i64 (q : Int) := hF.val 13 _ 73 rfl (hall 13 (by simp)) rfl
      have g14 : act.eval (.tmp 14) = .int .i64 (p : Int) := hF.val 14 _ 14 rfl (hall 14 (by simp)) rfl
      have g15 : act.eval (.tmp 15) = .int .i64 (q : Int) := hF.val 15 _ 15 rfl (hall 15 (by simp)) rfl
      have hact := hF.act [60, 61, 62, 63, 64, 65, 66, 67, 68, 69, 70, 71, 72, 73, 14, 15] (by kernel_rfl)
      clear hF hall
      simp only [List.foldl_cons, List.foldl_nil] at hact
      rw [g60, g61, g62, g63, g64, g65, g66, g67, g68, g69, g70, g71, g72, g73, g14, g15] at hact
      clear g60 g61 g62 g63 g64 g65 g66 g67 g68 g69 g70 g71 g72 g73 g14 g15
      simp only [List.setIfInBounds_toArray, List.set_cons_succ, List.set_cons_zero] at hact
      subst hact
      have hI9 : Below W9.heap.size W9 wz := hI
      obtain ⟨W10, hw10⟩ : ∃ W10, W10 = wz := ⟨_, rfl⟩
      subst hw10
      obtain ⟨hA9, hb9, hz9, hab⟩ := HA9.out
      obtain ⟨hOB8, hXB8, hS8, hH8, hO8, hz8⟩ := HM8.out
      have hb10 : Below w8.heap.size w8 W10 := hb9.trans (hI9.mono hb9.size)
      have hOB := hOB8.below hb10
      have hXB := hXB8.below hb10
      have hAB := hA9.below hI9
      have FIN := hidq (fun W r K a9 c9 (hW : Below W10.heap.size W10 W) (hL : L' = upd Ls r K) (hr : r < sh) (hrow : RdR W a9 K) (hc : K.length ≤ c9) (hin : ∀ j, inB a9 j → w.heap.size ≤ j ∧ j < W.heap.size ∧ j ≠ hb ∧ ¬ O8 j) => (show MA w sb mb hb sh (i + 1) (upd a r a9) (upd c r c9) (upd Ls r K) (W.setCell ⟨hb, r, none⟩ (.slice a9 K.length c9)) from by
        obtain ⟨hway, hM', hLL, hck2, hck⟩ := HW.out
        have hbt : But (fun j => j = hb) W (W.setCell ⟨hb, r, none⟩ (.slice a9 K.length c9)) := (But.refl (fun j => j = hb) W).set1 hb r rfl _
        have hSW := hS8.below (hb10.trans (hW.mono hb10.size))
        refine ⟨O8, M', hSW.but hbt (fun q hq e => hO8 (e ▸ hq)) (fun e => HHB.out.2 e.symm) (fun q e => by have := HHB.out.1; omega), hM', by omega, HHB.out.1, hO8, HHB.out.2, fun j hj => by rw [← hL]; exact (hLL j hj).1, ?_⟩
        have hHW := hH8.below (hb10.trans (hW.mono hb10.size))
        have hKl := (hLL r hr).2
        rw [hL, upd_same] at hKl
        exact hHW.turn K a9 c9 hKl hrow hc hin))
      have HH := hidq (hH8.below hb10)
      have HXB := hidq hXB
      have HAB := hidq hAB
      have HO8 := hidq (And.intro hO8 (show ∀ j, O8 j → j < w8.heap.size from hS8.mem.lt))
      have HWL := hidq (And.intro hS8.low.size hb10.size)
      have o0 := (hOB.get 0 _ rfl).1
      have hol := hOB.lt
      have a0' := (hAB.get 0 _ rfl).1
      have a1' := (hAB.get 1 _ rfl).1
      have a2' := (hAB.get 2 _ rfl).1
      have hal' := hAB.lt
      have x0 := (hXB.get 0 _ rfl).1
      have x1 := (hXB.get 1 _ rfl).1
      have hxl := hXB.lt
      have hway := HW.out.1
      have hpl := HPQ.out.2.2.1
      have hql := HPQ.out.2.2.2
      clear hA9 hb9 hz9 hab hOB8 hXB8 hS8 hH8 hO8 hz8 hb10 hOB hXB hAB hI hI9 HA9 HM8 hIP hIQ FC9
      rcases hway with ⟨rfl, rfl, hL1⟩ | ⟨rfl, r, hr, hL1, hcase⟩
      · have hIs := hidq (fun W => (show Calls Try.prog 14 #[.agg #[.float .f64 (cbits (nf pr)), .int .i64 x], .agg #[.int .u64 yq, .int .i64 x]] W fun e w' => e = .returned (.int .i64 0) ∧ Below W.heap.size W w' from by
          have := is_any (cbits (nf pr)) x yq x W
          rw [show isV (cbits (nf pr)) x yq x = 0 from if_pos ⟨HNF.out.1, rfl⟩] at this
          exact this))
        have HL1 := hidq hL1
        have HPL := hidq hpl
        clear hL1 hpl hql
        go_wp2_with fail
        refine (hIs.out _).mono ?_
        rintro e W11 ⟨rfl, hb11⟩
        have hpl := HPL.out
        obtain ⟨r1, r2, r3, r4⟩ := HH.out.row p hpl
        obtain ⟨ap, hap⟩ : ∃ ap, a p = ap := ⟨_, rfl⟩
        obtain ⟨np, hnp⟩ : ∃ np, (Ls p).length = np := ⟨_, rfl⟩
        obtain ⟨cpp, hcp⟩ : ∃ cpp, c p = cpp := ⟨_, rfl⟩
        obtain ⟨LL, hLL⟩ : ∃ LL, ins (mkKI (nf pr) x) (Ls p) = LL := ⟨_, rfl⟩
        have hLn : LL.length = np + 1 := by rw [← hLL, (ins_perm _ _).length_eq, ← hnp]; rfl
        have FC3 := hidq (fun W (hW : Below W11.heap.size W11 W) => (show W.cell? ⟨hb, p, none⟩ = some (.slice ap np cpp) ∧ W.cell? ⟨xb, 0, none⟩ = some (.int .u64 yq) ∧ W.cell? ⟨xb, 1, none⟩ = some (.int .i64 x) from by
          have hT := hb11.trans (hW.mono hb11.size)
          have q1 := ((HH.out.below hT).cell hpl).1
          rw [hap, hnp, hcp] at q1
          have q := HXB.out.below hT
          exact ⟨q1, (q.get 0 _ rfl).1, (q.get 1 _ rfl).1⟩))
        have hWi := hidq (fun W (hW : Below W11.heap.size W11 W) => (show Calls Try.prog 15 #[.slice ap np cpp, .agg #[.int .u64 yq, .int .i64 x]] W fun e w' => ∃ g' cap', e = .returned (.slice (some ⟨g', 0, none⟩) (np + 1) cap') ∧ W.heap.size ≤ g' ∧ Flat 2 w' g' cap' (np + 1) (flatR LL) ∧ Below W.heap.size W w' from by
          have := withR_any (a p) cpp (Ls p) (mkKI (nf pr) x) W (r2.below (hb11.trans (hW.mono hb11.size))) (by have := HLT.out; omega)
          rw [← HNF.out.2.1, mkKI_v HNF.out.2.2 x, wth_ins, hLL, hap, hnp] at this
          exact this))
        obtain ⟨lo3, hlo3⟩ : ∃ lo3, W11.heap.size = lo3 := ⟨_, rfl⟩
        have HLO3 := hidq (And.intro hlo3 hb11)
        have HP := hidq (And.intro hpl (And.intro hLL hLn))
        have hxl11 : xb < W11.heap.size := Nat.lt_of_lt_of_le hxl hb11.size
        have hpI : (p : Int) < (sh : Int) := by omega
        clear hlo3 hb11 r1 r2 r3 r4 hap hnp hcp hLL hLn o0 hol a0' a1' a2' hal' x0 x1 hxl
        go_wp2_with fail
        have hrefl : ∀ w : World, Reg.Keeps w w := Reg.Keeps.refl
        refine Reg.wp_region_props_tail 9 (Reg.ofList (mal18R lo3 hb sh xb p np cpp ap yq x LL)) Reg.Keeps (fun _ w => Reg.Keeps W11 w) (by kernel_rfl) (by kernel_rfl) (by kernel_rfl) (Reg.AllKept.at _ (mal18R_kept lo3 hb sh xb p np cpp ap yq x LL)) hrefl (Reg.Keeps.drewN (Reg.Keeps.refl _) 1) ⟨?_, ?_, ?_, ?_, ?_, ?_, ?_, ?_, ?_, trivial⟩ ?_
        · refine Reg.StepAt.plain (i := 0) rfl ?_
          intro L ev w hI hk hp hA
          have e8 : ev (.tmp 8) = .slice (some ⟨hb, 0, none⟩) sh sh := hA.oldNone 8 (by kernel_rfl)
          have hcc := hA.const
          clear hA hp
          refine Reg.out_value (v := .slice (some ⟨hb, 0, none⟩) sh sh) ?_ ⟨rfl, hrefl _, hI⟩
          go_simp
        · refine Reg.StepAt.plain (i := 1) rfl ?_
          intro L ev w hI hk hp hA
          have e14 : ev (.tmp 14) = .int .i64 (p : Int) := hA.oldNone 14 (by kernel_rfl)
          have hcc := hA.const
          clear hA hp
          refine Reg.out_value (v := .int .i64 (p : Int)) ?_ ⟨rfl, hrefl _, hI⟩
          go_simp
        · refine Reg.StepAt.plain (i := 2) rfl ?_
          intro L ev w hI hk hp hA
          have e8 : ev (.tmp 8) = .slice (some ⟨hb, 0, none⟩) sh sh := hA.oldNone 8 (by kernel_rfl)
          have hcc := hA.const
          clear hA hp
          refine Reg.out_value (v := .slice (some ⟨hb, 0, none⟩) sh sh) ?_ ⟨rfl, hrefl _, hI⟩
          go_simp
        · refine Reg.StepAt.plain (i := 3) rfl ?_
          intro L ev w hI hk hp hA
          have e14 : ev (.tmp 14) = .int .i64 (p : Int) := hA.oldNone 14 (by kernel_rfl)
          have hcc := hA.const
          clear hA hp
          refine Reg.out_value (v := .int .i64 (p : Int)) ?_ ⟨rfl, hrefl _, hI⟩
          go_simp
        · refine Reg.StepAt.plain (i := 4) rfl ?_
          intro L ev w hI hk hp hA
          have e93 : ev (.tmp 93) = .slice (some ⟨hb, 0, none⟩) sh sh := hA.val 2 _ 93 rfl (hp ⟨2, .data⟩ (by simp) rfl) rfl
          have e94 : ev (.tmp 94) = .int .i64 (p : Int) := hA.val 3 _ 94 rfl (hp ⟨3, .data⟩ (by simp) rfl) rfl
          have hcc := hA.const
          clear hA hp
          refine Reg.out_value (v := .pointer (some ⟨hb, p, none⟩)) ?_ ⟨rfl, hrefl _, hI⟩
          go_simp
        · refine Reg.StepAt.plain (i := 5) rfl ?_
          intro L ev w hI hk hp hA
          have e95 : ev (.tmp 95) = .pointer (some ⟨hb, p, none⟩) := hA.val 4 _ 95 rfl (hp ⟨4, .data⟩ (by simp) rfl) rfl
          have hcc := hA.const
          clear hA hp
          obtain ⟨f0, f1, f2⟩ := FC3.out w hI
          refine Reg.out_value (v := .slice ap np cpp) ?_ ⟨rfl, hrefl _, hI⟩
          go_simp
        · refine Reg.StepAt.plain (i := 6) rfl ?_
          intro L ev w hI hk hp hA
          have e11 : ev (.tmp 11) = .pointer (some ⟨xb, 0, none⟩) := hA.oldNone 11 (by kernel_rfl)
          have hcc := hA.const
          clear hA hp
          obtain ⟨f0, f1, f2⟩ := FC3.out w hI
          refine Reg.out_value (v := .agg #[.int .u64 yq, .int .i64 x]) ?_ ⟨rfl, hrefl _, hI⟩
          go_simp
        · refine Reg.StepAt.plain (i := 7) rfl ?_
          intro L ev w hI hk hp hA
          have e96 : ev (.tmp 96) = .slice ap np cpp := hA.val 5 _ 96 rfl (hp ⟨5, .data⟩ (by simp) rfl) rfl
          have e97 : ev (.tmp 97) = .agg #[.int .u64 yq, .int .i64 x] := hA.val 6 _ 97 rfl (hp ⟨6, .data⟩ (by simp) rfl) rfl
          have hcc := hA.const
          have hcf := hA.func
          clear hA hp
          refine Reg.out_call (f := 15) (args := #[.slice ap np cpp, .agg #[.int .u64 yq, .int .i64 x]]) (w0 := w) ?_ ?_
          · go_simp
          refine (hWi.out w hI).mono ?_
          rintro e w' ⟨g', c', rfl, hg', hf', hb'⟩
          exact ⟨_, rfl, ⟨g', c', rfl, hf', by have h1 : W11.heap.size ≤ w.heap.size := hI.size; have h2 := HLO3.out; omega⟩, hb', Reg.Keeps.trans hI hb'⟩
        · refine Reg.StepAt.plain (i := 8) rfl ?_
          intro L ev w hI hk hp hA
          have e91 : ev (.tmp 91) = .slice (some ⟨hb, 0, none⟩) sh sh := hA.val 0 _ 91 rfl (hp ⟨0, .data⟩ (by simp) rfl) rfl
          have e92 : ev (.tmp 92) = .int .i64 (p : Int) := hA.val 1 _ 92 rfl (hp ⟨1, .data⟩ (by simp) rfl) rfl
          have hcc := hA.const
          clear hA hp
          refine Reg.out_value (v := .pointer (some ⟨hb, p, none⟩)) ?_ ⟨rfl, hrefl _, hI⟩
          go_simp
        intro act wz hI hF
        have g91 : act.eval (.tmp 91) = .slice (some ⟨hb, 0, none⟩) sh sh := hF.val 0 _ 91 rfl (by kernel_rfl) rfl
        have g92 : act.eval (.tmp 92) = .int .i64 (p : Int) := hF.val 1 _ 92 rfl (by kernel_rfl) rfl
        have g93 : act.eval (.tmp 93) = .slice (some ⟨hb, 0, none⟩) sh sh := hF.val 2 _ 93 rfl (by kernel_rfl) rfl
        have g94 : act.eval (.tmp 94) = .int .i64 (p : Int) := hF.val 3 _ 94 rfl (by kernel_rfl) rfl
        have g95 : act.eval (.tmp 95) = .pointer (some ⟨hb, p, none⟩) := hF.val 4 _ 95 rfl (by kernel_rfl) rfl
        have g96 : act.eval (.tmp 96) = .slice ap np cpp := hF.val 5 _ 96 rfl (by kernel_rfl) rfl
        have g97 : act.eval (.tmp 97) = .agg #[.int .u64 yq, .int .i64 x] := hF.val 6 _ 97 rfl (by kernel_rfl) rfl
        have g98 : (fun v w => ∃ g c, v = .slice (some ⟨g, 0, none⟩) (np + 1) c ∧ Flat 2 w g c (np + 1) (flatR LL) ∧ lo3 ≤ g) (act.eval (.tmp 98)) wz := hF.val 7 _ 98 rfl (by kernel_rfl) rfl
        have g99 : act.eval (.tmp 99) = .pointer (some ⟨hb, p, none⟩) := hF.val 8 _ 99 rfl (by kernel_rfl) rfl
        have hact := hF.actHead [91, 92, 93, 94, 95, 96, 97, 98, 99] (by kernel_rfl)
        clear hF
        simp only [List.foldl_cons, List.foldl_nil] at hact
        rw [g91, g92, g93, g94, g95, g96, g97, g99] at hact
        clear g91 g92 g93 g94 g95 g96 g97 g99
        generalize act.eval (.tmp 98) = u98 at hact g98
        simp only [List.setIfInBounds_toArray, List.set_cons_succ, List.set_cons_zero] at hact
        subst hact
        simp only [List.drop_succ_cons, List.drop_zero]
        obtain ⟨g9, c9, rfl, hF9, hl9⟩ := g98
        have hIz : Below W11.heap.size W11 wz := hI
        obtain ⟨hlo3, hb11⟩ := HLO3.out
        obtain ⟨_, hLL, hLn⟩ := HP.out
        have hT := hb11.trans (hIz.mono hb11.size)
        have HZ := hidq (show MA w sb mb hb sh (i + 1) (upd a p (some ⟨g9, 0, none⟩)) (upd c p c9) (upd Ls p LL) (wz.setCell ⟨hb, p, none⟩ (.slice (some ⟨g9, 0, none⟩) (np + 1) c9)) from by
          have h8 := HWL.out
          have h11 := hb11.size
          have := FIN.out wz p LL (some ⟨g9, 0, none⟩) c9 hT (by rw [HL1.out, hLL]) hpl (RdR.of_flat (by rw [hLn]; exact hF9)) (by have := hF9.le; omega) (fun j hj => by
            obtain ⟨y, hy, hj2⟩ := hj
            cases hy
            have hj3 : g9 = j := hj2
            subst hj3
            have hbl := HH.out.box.lt
            exact ⟨by omega, hF9.lt, by omega, fun e => by have := HO8.out.2 _ e; omega⟩)
          rw [hLn] at this
          exact this)
        obtain ⟨cz, fz⟩ := (HH.out.below hT).cell hpl
        have hbl : hb < wz.heap.size := (HH.out.below hT).box.lt
        clear hI hIz hlo3 hb11 hLL hLn hT hF9 hl9 HL1 HLO3 HP FC3 hWi FIN HH
        go_wp2
        go_roundw
        case rel => exact ⟨i + 1, _, _, _, by go_num, by have := HLT.out; omega, HZ⟩
        case measure => simp [intOf]; omega
      · have HR := hidq (And.intro hr (And.intro hL1 (And.intro hcase (And.intro hpl hql))))
        clear hr hL1 hcase hpl hql
        rcases hLp : Ls p with _ | ⟨zp, Kp⟩
        focus
          obtain ⟨hr, hL1, hcase, hpl, hql⟩ := HR.out
          have hre : r = q := by rw [hr, hLp]; rfl
          obtain ⟨ap, hap⟩ : ∃ ap, a p = ap := ⟨_, rfl⟩
          obtain ⟨cpp, hcp⟩ : ∃ cpp, c p = cpp := ⟨_, rfl⟩
          have FC3 := hidq (fun W (hW : Below W10.heap.size W10 W) => (show W.cell? ⟨hb, p, none⟩ = some (.slice ap 0 cpp) ∧ True ∧ True ∧ True ∧ True ∧ True from by
            have q1 := ((HH.out.below hW).cell hpl).1
            rw [hLp, hap, hcp] at q1
            exact ⟨q1, trivial, trivial, trivial, trivial, trivial⟩))
          have HLP := hidq (And.intro hLp hre)
          have hpI : (p : Int) < (sh : Int) := by omega
          have hqI : (q : Int) < (sh : Int) := by omega
          clear hr hL1 hcase hap hcp hLp hre a0' a1' a2' hal' x0 x1 hxl
          go_wp2_with fail
          have hrefl : ∀ w : World, Reg.Keeps w w := Reg.Keeps.refl
          refine Reg.wp_region_props (Reg.ofList (mal19Re hb sh p q cpp ap)) Reg.Keeps (fun _ w => Reg.Keeps W10 w) (by kernel_rfl) (by kernel_rfl) (Reg.AllKept.at _ (mal19Re_kept hb sh p q cpp ap)) hrefl (Reg.Keeps.drewN (Reg.Keeps.refl _) 1) ⟨?_, ?_, ?_, ?_, ?_, ?_, ?_, ?_, ?_, ?_, ?_, ?_, ?_, ?_, ?_, ?_, ?_, ?_, ?_, ?_, ?_, ?_, ?_, ?_, ?_, ?_, ?_, ?_, ?_, ?_, trivial⟩ ?_
          · refine Reg.StepAt.plain (i := 0) rfl ?_
            intro L ev w hI hk hp hA
            have e8 : ev (.tmp 8) = .slice (some ⟨hb, 0, none⟩) sh sh := hA.oldNone 8 (by kernel_rfl)
            have hcc := hA.const
            clear hA hp
            refine Reg.out_value (v := .slice (some ⟨hb, 0, none⟩) sh sh) ?_ ⟨rfl, hrefl _, hI⟩
            go_simp
          · refine Reg.StepAt.plain (i := 1) rfl ?_
            intro L ev w hI hk hp hA
            have e14 : ev (.tmp 14) = .int .i64 (p : Int) := hA.oldNone 14 (by kernel_rfl)
            have hcc := hA.const
            clear hA hp
            refine Reg.out_value (v := .int .i64 (p : Int)) ?_ ⟨rfl, hrefl _, hI⟩
            go_simp
          · refine Reg.StepAt.plain (i := 2) rfl ?_
            intro L ev w hI hk hp hA
            have e100 : ev (.tmp 100) = .slice (some ⟨hb, 0, none⟩) sh sh := hA.val 0 _ 100 rfl (hp ⟨0, .data⟩ (by simp) rfl) rfl
            have e101 : ev (.tmp 101) = .int .i64 (p : Int) := hA.val 1 _ 101 rfl (hp ⟨1, .data⟩ (by simp) rfl) rfl
            have hcc := hA.const
            clear hA hp
            refine Reg.out_value (v := .pointer (some ⟨hb, p, none⟩)) ?_ ⟨rfl, hrefl _, hI⟩
            go_simp
          · refine Reg.StepAt.plain (i := 3) rfl ?_
            intro L ev w hI hk hp hA
            have e102 : ev (.tmp 102) = .pointer (some ⟨hb, p, none⟩) := hA.val 2 _ 102 rfl (hp ⟨2, .data⟩ (by simp) rfl) rfl
            have hcc := hA.const
            clear hA hp
            obtain ⟨f0, f1, f2, f3, f4, f5⟩ := FC3.out w hI
            refine Reg.out_value (v := .slice ap 0 cpp) ?_ ⟨rfl, hrefl _, hI⟩
            go_simp
          · refine Reg.StepAt.plain (i := 4) rfl ?_
            intro L ev w hI hk hp hA
            have e103 : ev (.tmp 103) = .slice ap 0 cpp := hA.val 3 _ 103 rfl (hp ⟨3, .data⟩ (by simp) rfl) rfl
            have hcc := hA.const
            clear hA hp
            refine Reg.out_value (v := .int .i64 0) ?_ ⟨rfl, hrefl _, hI⟩
            go_simp
          · refine Reg.StepAt.plain (i := 5) rfl ?_
            intro L ev w hI hk hp hA
            have e104 : ev (.tmp 104) = .int .i64 0 := hA.val 4 _ 104 rfl (hp ⟨4, .data⟩ (by simp) rfl) rfl
            have hcc := hA.const
            clear hA hp
            refine Reg.out_value (v := .bool true) ?_ ⟨rfl, hrefl _, hI⟩
            go_simp
          · refine Reg.StepAt.plain (i := 6) rfl ?_
            intro L ev w hI hk hp hA
            have e105 : ev (.tmp 105) = .bool true := hA.val 5 _ 105 rfl (hp ⟨5, .data⟩ (by simp) rfl) rfl
            have hcc := hA.const
            clear hA hp
            refine Reg.out_value (v := .bool true) ?_ ⟨rfl, hrefl _, hI⟩
            go_simp
          · refine Reg.StepAt.guarded (i := 7) rfl ?_
            intro L ev w hI hk hp hA
            have e8 : ev (.tmp 8) = .slice (some ⟨hb, 0, none⟩) sh sh := hA.oldNone 8 (by kernel_rfl)
            have eg : ev (.tmp 106) = .bool true := hA.val 6 _ 106 rfl (hp ⟨6, .guard⟩ (by simp) rfl) rfl
            refine ⟨_, 106, true, rfl, rfl, eg, ?_⟩
            rw [if_neg (by decide)]
            have hcc := hA.const
            clear hA hp
            exact ⟨rfl, hI⟩
          · refine Reg.StepAt.guarded (i := 8) rfl ?_
            intro L ev w hI hk hp hA
            have e15 : ev (.tmp 15) = .int .i64 (q : Int) := hA.oldNone 15 (by kernel_rfl)
            have eg : ev (.tmp 106) = .bool true := hA.val 6 _ 106 rfl (hp ⟨6, .guard⟩ (by simp) rfl) rfl
            refine ⟨_, 106, true, rfl, rfl, eg, ?_⟩
            rw [if_neg (by decide)]
            have hcc := hA.const
            clear hA hp
            exact ⟨rfl, hI⟩
          · refine Reg.StepAt.guarded (i := 9) rfl ?_
            intro L ev w hI hk hp hA
            have e107 : (fun v _ => v = undef) (ev (.tmp 107)) w := hA.val 7 _ 107 rfl (hp ⟨7, .data⟩ (by simp) rfl) rfl
            have e108 : (fun v _ => v = undef) (ev (.tmp 108)) w := hA.val 8 _ 108 rfl (hp ⟨8, .data⟩ (by simp) rfl) rfl
            have eg : ev (.tmp 106) = .bool true := hA.val 6 _ 106 rfl (hp ⟨6, .guard⟩ (by simp) rfl) rfl
            refine ⟨_, 106, true, rfl, rfl, eg, ?_⟩
            rw [if_neg (by decide)]
            have hcc := hA.const
            clear hA hp
            exact ⟨rfl, hI⟩
          · refine Reg.StepAt.guarded (i := 10) rfl ?_
            intro L ev w hI hk hp hA
            have e109 : (fun v _ => v = undef) (ev (.tmp 109)) w := hA.val 9 _ 109 rfl (hp ⟨9, .data⟩ (by simp) rfl) rfl
            have eg : ev (.tmp 106) = .bool true := hA.val 6 _ 106 rfl (hp ⟨6, .guard⟩ (by simp) rfl) rfl
            refine ⟨_, 106, true, rfl, rfl, eg, ?_⟩
            rw [if_neg (by decide)]
            have hcc := hA.const
            clear hA hp
            exact ⟨rfl, hI⟩
          · refine Reg.StepAt.guarded (i := 11) rfl ?_
            intro L ev w hI hk hp hA
            have e110 : (fun v _ => v = undef) (ev (.tmp 110)) w := hA.val 10 _ 110 rfl (hp ⟨10, .data⟩ (by simp) rfl) rfl
            have eg : ev (.tmp 106) = .bool true := hA.val 6 _ 106 rfl (hp ⟨6, .guard⟩ (by simp) rfl) rfl
            refine ⟨_, 106, true, rfl, rfl, eg, ?_⟩
            rw [if_neg (by decide)]
            have hcc := hA.const
            clear hA hp
            exact ⟨rfl, hI⟩
          · refine Reg.StepAt.guarded (i := 12) rfl ?_
            intro L ev w hI hk hp hA
            have e111 : (fun v _ => v = undef) (ev (.tmp 111)) w := hA.val 11 _ 111 rfl (hp ⟨11, .data⟩ (by simp) rfl) rfl
            have eg : ev (.tmp 106) = .bool true := hA.val 6 _ 106 rfl (hp ⟨6, .guard⟩ (by simp) rfl) rfl
            refine ⟨_, 106, true, rfl, rfl, eg, ?_⟩
            rw [if_neg (by decide)]
            have hcc := hA.const
            clear hA hp
            exact ⟨rfl, hI⟩
          · refine Reg.StepAt.guarded (i := 13) rfl ?_
            intro L ev w hI hk hp hA
            have e112 : (fun v _ => v = undef) (ev (.tmp 112)) w := hA.val 12 _ 112 rfl (hp ⟨12, .data⟩ (by simp) rfl) rfl
            have eg : ev (.tmp 106) = .bool true := hA.val 6 _ 106 rfl (hp ⟨6, .chain⟩ (by simp) rfl) rfl
            refine ⟨_, 106, true, rfl, rfl, eg, ?_⟩
            rw [if_neg (by decide)]
            have hcc := hA.const
            clear hA hp
            exact ⟨rfl, hI⟩
          · refine Reg.StepAt.unreached (i := 14) rfl ?_
            intro L ev w hI hk hp hA
            have e8 : ev (.tmp 8) = .slice (some ⟨hb, 0, none⟩) sh sh := hA.oldNone 8 (by kernel_rfl)
            have eg : ev (.tmp 113) = undef := hA.val 13 _ 113 rfl (hp ⟨13, .guard⟩ (by simp) rfl) rfl
            refine ⟨_, 113, rfl, rfl, eg, ?_⟩
            have hcc := hA.const
            clear hA hp
            exact ⟨rfl, hI⟩
          · refine Reg.StepAt.unreached (i := 15) rfl ?_
            intro L ev w hI hk hp hA
            have e15 : ev (.tmp 15) = .int .i64 (q : Int) := hA.oldNone 15 (by kernel_rfl)
            have eg : ev (.tmp 113) = undef := hA.val 13 _ 113 rfl (hp ⟨13, .guard⟩ (by simp) rfl) rfl
            refine ⟨_, 113, rfl, rfl, eg, ?_⟩
            have hcc := hA.const
            clear hA hp
            exact ⟨rfl, hI⟩
          · refine Reg.StepAt.unreached (i := 16) rfl ?_
            intro L ev w hI hk hp hA
            have e114 : (fun v _ => v = undef) (ev (.tmp 114)) w := hA.val 14 _ 114 rfl (hp ⟨14, .data⟩ (by simp) rfl) rfl
            have e115 : (fun v _ => v = undef) (ev (.tmp 115)) w := hA.val 15 _ 115 rfl (hp ⟨15, .data⟩ (by simp) rfl) rfl
            have eg : ev (.tmp 113) = undef := hA.val 13 _ 113 rfl (hp ⟨13, .guard⟩ (by simp) rfl) rfl
            refine ⟨_, 113, rfl, rfl, eg, ?_⟩
            have hcc := hA.const
            clear hA hp
            exact ⟨rfl, hI⟩
          · refine Reg.StepAt.unreached (i := 17) rfl ?_
            intro L ev w hI hk hp hA
            have e116 : (fun v _ => v = undef) (ev (.tmp 116)) w := hA.val 16 _ 116 rfl (hp ⟨16, .data⟩ (by simp) rfl) rfl
            have eg : ev (.tmp 113) = undef := hA.val 13 _ 113 rfl (hp ⟨13, .guard⟩ (by simp) rfl) rfl
            refine ⟨_, 113, rfl, rfl, eg, ?_⟩
            have hcc := hA.const
            clear hA hp
            exact ⟨rfl, hI⟩
          · refine Reg.StepAt.unreached (i := 18) rfl ?_
            intro L ev w hI hk hp hA
            have e117 : (fun v _ => v = undef) (ev (.tmp 117)) w := hA.val 17 _ 117 rfl (hp ⟨17, .data⟩ (by simp) rfl) rfl
            have eg : ev (.tmp 113) = undef := hA.val 13 _ 113 rfl (hp ⟨13, .guard⟩ (by simp) rfl) rfl
            refine ⟨_, 113, rfl, rfl, eg, ?_⟩
            have hcc := hA.const
            clear hA hp
            exact ⟨rfl, hI⟩
          · refine Reg.StepAt.unreached (i := 19) rfl ?_
            intro L ev w hI hk hp hA
            have e118 : (fun v _ => v = undef) (ev (.tmp 118)) w := hA.val 18 _ 118 rfl (hp ⟨18, .data⟩ (by simp) rfl) rfl
            have eg : ev (.tmp 113) = undef := hA.val 13 _ 113 rfl (hp ⟨13, .guard⟩ (by simp) rfl) rfl
            refine ⟨_, 113, rfl, rfl, eg, ?_⟩
            have hcc := hA.const
            clear hA hp
            exact ⟨rfl, hI⟩
          · refine Reg.StepAt.unreached (i := 20) rfl ?_
            intro L ev w hI hk hp hA
            have e8 : ev (.tmp 8) = .slice (some ⟨hb, 0, none⟩) sh sh := hA.oldNone 8 (by kernel_rfl)
            have eg : ev (.tmp 113) = undef := hA.val 13 _ 113 rfl (hp ⟨13, .guard⟩ (by simp) rfl) rfl
            refine ⟨_, 113, rfl, rfl, eg, ?_⟩
            have hcc := hA.const
            clear hA hp
            exact ⟨rfl, hI⟩
          · refine Reg.StepAt.unreached (i := 21) rfl ?_
            intro L ev w hI hk hp hA
            have e14 : ev (.tmp 14) = .int .i64 (p : Int) := hA.oldNone 14 (by kernel_rfl)
            have eg : ev (.tmp 113) = undef := hA.val 13 _ 113 rfl (hp ⟨13, .guard⟩ (by simp) rfl) rfl
            refine ⟨_, 113, rfl, rfl, eg, ?_⟩
            have hcc := hA.const
            clear hA hp
            exact ⟨rfl, hI⟩
          · refine Reg.StepAt.unreached (i := 22) rfl ?_
            intro L ev w hI hk hp hA
            have e120 : (fun v _ => v = undef) (ev (.tmp 120)) w := hA.val 20 _ 120 rfl (hp ⟨20, .data⟩ (by simp) rfl) rfl
            have e121 : (fun v _ => v = undef) (ev (.tmp 121)) w := hA.val 21 _ 121 rfl (hp ⟨21, .data⟩ (by simp) rfl) rfl
            have eg : ev (.tmp 113) = undef := hA.val 13 _ 113 rfl (hp ⟨13, .guard⟩ (by simp) rfl) rfl
            refine ⟨_, 113, rfl, rfl, eg, ?_⟩
            have hcc := hA.const
            clear hA hp
            exact ⟨rfl, hI⟩
          · refine Reg.StepAt.unreached (i := 23) rfl ?_
            intro L ev w hI hk hp hA
            have e122 : (fun v _ => v = undef) (ev (.tmp 122)) w := hA.val 22 _ 122 rfl (hp ⟨22, .data⟩ (by simp) rfl) rfl
            have eg : ev (.tmp 113) = undef := hA.val 13 _ 113 rfl (hp ⟨13, .guard⟩ (by simp) rfl) rfl
            refine ⟨_, 113, rfl, rfl, eg, ?_⟩
            have hcc := hA.const
            clear hA hp
            exact ⟨rfl, hI⟩
          · refine Reg.StepAt.unreached (i := 24) rfl ?_
            intro L ev w hI hk hp hA
            have e123 : (fun v _ => v = undef) (ev (.tmp 123)) w := hA.val 23 _ 123 rfl (hp ⟨23, .data⟩ (by simp) rfl) rfl
            have eg : ev (.tmp 113) = undef := hA.val 13 _ 113 rfl (hp ⟨13, .guard⟩ (by simp) rfl) rfl
            refine ⟨_, 113, rfl, rfl, eg, ?_⟩
            have hcc := hA.const
            clear hA hp
            exact ⟨rfl, hI⟩
          · refine Reg.StepAt.unreached (i := 25) rfl ?_
            intro L ev w hI hk hp hA
            have e124 : (fun v _ => v = undef) (ev (.tmp 124)) w := hA.val 24 _ 124 rfl (hp ⟨24, .data⟩ (by simp) rfl) rfl
            have eg : ev (.tmp 113) = undef := hA.val 13 _ 113 rfl (hp ⟨13, .guard⟩ (by simp) rfl) rfl
            refine ⟨_, 113, rfl, rfl, eg, ?_⟩
            have hcc := hA.const
            clear hA hp
            exact ⟨rfl, hI⟩
          · refine Reg.StepAt.unreached (i := 26) rfl ?_
            intro L ev w hI hk hp hA
            have e119 : (fun v _ => v = undef) (ev (.tmp 119)) w := hA.val 19 _ 119 rfl (hp ⟨19, .data⟩ (by simp) rfl) rfl
            have e125 : (fun v _ => v = undef) (ev (.tmp 125)) w := hA.val 25 _ 125 rfl (hp ⟨25, .data⟩ (by simp) rfl) rfl
            have eg : ev (.tmp 113) = undef := hA.val 13 _ 113 rfl (hp ⟨13, .chain⟩ (by simp) rfl) rfl
            refine ⟨_, 113, rfl, rfl, eg, ?_⟩
            have hcc := hA.const
            have hcf := hA.func
            clear hA hp
            exact ⟨rfl, hI⟩
          · refine Reg.StepAt.unreached (i := 27) rfl ?_
            intro L ev w hI hk hp hA
            have e126 : (fun v _ => v = undef) (ev (.tmp 126)) w := hA.val 26 _ 126 rfl (hp ⟨26, .data⟩ (by simp) rfl) rfl
            have eg : ev (.tmp 113) = undef := hA.val 13 _ 113 rfl (hp ⟨13, .guard⟩ (by simp) rfl) rfl
            refine ⟨_, 113, rfl, rfl, eg, ?_⟩
            have hcc := hA.const
            clear hA hp
            exact ⟨rfl, hI⟩
          · refine Reg.StepAt.guarded (i := 28) rfl ?_
            intro L ev w hI hk hp hA
            have e113 : (fun v _ => v = undef) (ev (.tmp 113)) w := hA.val 13 _ 113 rfl (hp ⟨13, .data⟩ (by simp) rfl) rfl
            have e127 : (fun v _ => v = undef) (ev (.tmp 127)) w := hA.val 27 _ 127 rfl (hp ⟨27, .data⟩ (by simp) rfl) rfl
            have eg : ev (.tmp 106) = .bool true := hA.val 6 _ 106 rfl (hp ⟨6, .guard⟩ (by simp) rfl) rfl
            refine ⟨_, 106, true, rfl, rfl, eg, ?_⟩
            rw [if_neg (by decide)]
            have hcc := hA.const
            clear hA hp
            exact ⟨rfl, hI⟩
          · refine Reg.StepAt.plain (i := 29) rfl ?_
            intro L ev w hI hk hp hA
            have e106 : ev (.tmp 106) = .bool true := hA.val 6 _ 106 rfl (hp ⟨6, .data⟩ (by simp) rfl) rfl
            have e128 : (fun v _ => v = undef) (ev (.tmp 128)) w := hA.val 28 _ 128 rfl (hp ⟨28, .data⟩ (by simp) rfl) rfl
            have hcc := hA.const
            clear hA hp
            refine Reg.out_value (v := .bool true) ?_ ⟨rfl, hrefl _, hI⟩
            go_simp
          intro L act wz hall hI hF
          have g100 : act.eval (.tmp 100) = .slice (some ⟨hb, 0, none⟩) sh sh := hF.val 0 _ 100 rfl (hall 0 (by simp)) rfl
          have g101 : act.eval (.tmp 101) = .int .i64 (p : Int) := hF.val 1 _ 101 rfl (hall 1 (by simp)) rfl
          have g102 : act.eval (.tmp 102) = .pointer (some ⟨hb, p, none⟩) := hF.val 2 _ 102 rfl (hall 2 (by simp)) rfl
          have g103 : act.eval (.tmp 103) = .slice ap 0 cpp := hF.val 3 _ 103 rfl (hall 3 (by simp)) rfl
          have g104 : act.eval (.tmp 104) = .int .i64 0 := hF.val 4 _ 104 rfl (hall 4 (by simp)) rfl
          have g105 : act.eval (.tmp 105) = .bool true := hF.val 5 _ 105 rfl (hall 5 (by simp)) rfl
          have g106 : act.eval (.tmp 106) = .bool true := hF.val 6 _ 106 rfl (hall 6 (by simp)) rfl
          have g107 : (fun v _ => v = undef) (act.eval (.tmp 107)) wz := hF.val 7 _ 107 rfl (hall 7 (by simp)) rfl
          have g108 : (fun v _ => v = undef) (act.eval (.tmp 108)) wz := hF.val 8 _ 108 rfl (hall 8 (by simp)) rfl
          have g109 : (fun v _ => v = undef) (act.eval (.tmp 109)) wz := hF.val 9 _ 109 rfl (hall 9 (by simp)) rfl
          have g110 : (fun v _ => v = undef) (act.eval (.tmp 110)) wz := hF.val 10 _ 110 rfl (hall 10 (by simp)) rfl
          have g111 : (fun v _ => v = undef) (act.eval (.tmp 111)) wz := hF.val 11 _ 111 rfl (hall 11 (by simp)) rfl
          have g112 : (fun v _ => v = undef) (act.eval (.tmp 112)) wz := hF.val 12 _ 112 rfl (hall 12 (by simp)) rfl
          have g113 : (fun v _ => v = undef) (act.eval (.tmp 113)) wz := hF.val 13 _ 113 rfl (hall 13 (by simp)) rfl
          have g114 : (fun v _ => v = undef) (act.eval (.tmp 114)) wz := hF.val 14 _ 114 rfl (hall 14 (by simp)) rfl
          have g115 : (fun v _ => v = undef) (act.eval (.tmp 115)) wz := hF.val 15 _ 115 rfl (hall 15 (by simp)) rfl
          have g116 : (fun v _ => v = undef) (act.eval (.tmp 116)) wz := hF.val 16 _ 116 rfl (hall 16 (by simp)) rfl
          have g117 : (fun v _ => v = undef) (act.eval (.tmp 117)) wz := hF.val 17 _ 117 rfl (hall 17 (by simp)) rfl
          have g118 : (fun v _ => v = undef) (act.eval (.tmp 118)) wz := hF.val 18 _ 118 rfl (hall 18 (by simp)) rfl
          have g119 : (fun v _ => v = undef) (act.eval (.tmp 119)) wz := hF.val 19 _ 119 rfl (hall 19 (by simp)) rfl
          have g120 : (fun v _ => v = undef) (act.eval (.tmp 120)) wz := hF.val 20 _ 120 rfl (hall 20 (by simp)) rfl
          have g121 : (fun v _ => v = undef) (act.eval (.tmp 121)) wz := hF.val 21 _ 121 rfl (hall 21 (by simp)) rfl
          have g122 : (fun v _ => v = undef) (act.eval (.tmp 122)) wz := hF.val 22 _ 122 rfl (hall 22 (by simp)) rfl
          have g123 : (fun v _ => v = undef) (act.eval (.tmp 123)) wz := hF.val 23 _ 123 rfl (hall 23 (by simp)) rfl
          have g124 : (fun v _ => v = undef) (act.eval (.tmp 124)) wz := hF.val 24 _ 124 rfl (hall 24 (by simp)) rfl
          have g125 : (fun v _ => v = undef) (act.eval (.tmp 125)) wz := hF.val 25 _ 125 rfl (hall 25 (by simp)) rfl
          have g126 : (fun v _ => v = undef) (act.eval (.tmp 126)) wz := hF.val 26 _ 126 rfl (hall 26 (by simp)) rfl
          have g127 : (fun v _ => v = undef) (act.eval (.tmp 127)) wz := hF.val 27 _ 127 rfl (hall 27 (by simp)) rfl
          have g128 : (fun v _ => v = undef) (act.eval (.tmp 128)) wz := hF.val 28 _ 128 rfl (hall 28 (by simp)) rfl
          have g129 : act.eval (.tmp 129) = .bool true := hF.val 29 _ 129 rfl (hall 29 (by simp)) rfl
          have hact := hF.act [100, 101, 102, 103, 104, 105, 106, 107, 108, 109, 110, 111, 112, 113, 114, 115, 116, 117, 118, 119, 120, 121, 122, 123, 124, 125, 126, 127, 128, 129] (by kernel_rfl)
          clear hF hall
          simp only [List.foldl_cons, List.foldl_nil] at hact
          rw [g100, g101, g102, g103, g104, g105, g106, g129] at hact
          clear g100 g101 g102 g103 g104 g105 g106 g129
          generalize act.eval (.tmp 107) = u107 at hact g107
          generalize act.eval (.tmp 108) = u108 at hact g108
          generalize act.eval (.tmp 109) = u109 at hact g109
          generalize act.eval (.tmp 110) = u110 at hact g110
          generalize act.eval (.tmp 111) = u111 at hact g111
          generalize act.eval (.tmp 112) = u112 at hact g112
          generalize act.eval (.tmp 113) = u113 at hact g113
          generalize act.eval (.tmp 114) = u114 at hact g114
          generalize act.eval (.tmp 115) = u115 at hact g115
          generalize act.eval (.tmp 116) = u116 at hact g116
          generalize act.eval (.tmp 117) = u117 at hact g117
          generalize act.eval (.tmp 118) = u118 at hact g118
          generalize act.eval (.tmp 119) = u119 at hact g119
          generalize act.eval (.tmp 120) = u120 at hact g120
          generalize act.eval (.tmp 121) = u121 at hact g121
          generalize act.eval (.tmp 122) = u122 at hact g122
          generalize act.eval (.tmp 123) = u123 at hact g123
          generalize act.eval (.tmp 124) = u124 at hact g124
          generalize act.eval (.tmp 125) = u125 at hact g125
          generalize act.eval (.tmp 126) = u126 at hact g126
          generalize act.eval (.tmp 127) = u127 at hact g127
          generalize act.eval (.tmp 128) = u128 at hact g128
          simp only [List.setIfInBounds_toArray, List.set_cons_succ, List.set_cons_zero] at hact
          subst hact
          obtain ⟨hLp, hre⟩ := HLP.out
          subst hre
          obtain ⟨W12, hw12⟩ : ∃ W12, W12 = wz := ⟨_, rfl⟩
          subst hw12
          have hI12 : Below W10.heap.size W10 W12 := hI
          clear hI
          obtain ⟨hr, hL1, hcase, _, hrl⟩ := HR.out
          rcases hcase with ⟨hLr, hA, _, _⟩ | ⟨z, K, hz, hA⟩
          · subst hA
            have hrl' := hrl
            obtain ⟨r1, r2, r3, r4⟩ := HH.out.row r hrl
            obtain ⟨ar, har⟩ : ∃ ar, a r = ar := ⟨_, rfl⟩
            obtain ⟨cr, hcr⟩ : ∃ cr, c r = cr := ⟨_, rfl⟩
            rw [har] at r4
            have hrI : (r : Int) < (sh : Int) := by omega
            have hcell : ∀ W, Below W10.heap.size W10 W → W.cell? ⟨hb, r, none⟩ = some (.slice ar 0 cr) := fun W hW => by
              have q1 := ((HH.out.below hW).cell hrl).1
              rw [hLr, har, hcr] at q1
              exact q1
            have FC4 := hidq (fun W (hW : Below W12.heap.size W12 W) => (show W.cell? ⟨ab, 0, none⟩ = some (.bool false) ∧ W.cell? ⟨hb, r, none⟩ = some (.slice ar 0 cr) ∧ True ∧ True ∧ True ∧ True from by
              have hT := hI12.trans (hW.mono hI12.size)
              have q := HAB.out.below hT
              exact ⟨(q.get 0 _ rfl).1, hcell W hT, trivial, trivial, trivial, trivial⟩))
            have HR4 := hidq r4
            have HCL := hidq (And.intro hcell (And.intro hI12 (And.intro hrl (And.intro (show L' = upd Ls r [] by rw [hL1, hLr]; rfl) hcr))))
            clear hr hL1 hLr har r1 r2 r3 r4 hcell hI12 hcr hrl hLp
            go_wp2_with fail
            have hrefl : ∀ w : World, Reg.Keeps w w := Reg.Keeps.refl
            refine Reg.wp_region_props (Reg.ofList (mal21Rnone ab hb sh r cr ar)) Reg.Keeps (fun _ w => Reg.Keeps W12 w) (by kernel_rfl) (by kernel_rfl) (Reg.AllKept.at _ (mal21Rnone_kept ab hb sh r cr ar)) hrefl (Reg.Keeps.drewN (Reg.Keeps.refl _) 1) ⟨?_, ?_, ?_, ?_, ?_, ?_, ?_, ?_, ?_, ?_, ?_, ?_, ?_, ?_, ?_, ?_, ?_, ?_, ?_, ?_, ?_, ?_, ?_, ?_, ?_, ?_, ?_, ?_, ?_, trivial⟩ ?_
            · refine Reg.StepAt.plain (i := 0) rfl ?_
              intro L ev w hI hk hp hA
              have e13 : ev (.tmp 13) = .bool true := hA.oldNone 13 (by kernel_rfl)
              have hcc := hA.const
              clear hA hp
              refine Reg.out_value (v := .bool true) ?_ ⟨rfl, hrefl _, hI⟩
              go_simp
            · refine Reg.StepAt.plain (i := 1) rfl ?_
              intro L ev w hI hk hp hA
              have e131 : ev (.tmp 131) = .bool true := hA.val 0 _ 131 rfl (hp ⟨0, .data⟩ (by simp) rfl) rfl
              have hcc := hA.const
              clear hA hp
              refine Reg.out_value (v := .bool false) ?_ ⟨rfl, hrefl _, hI⟩
              go_simp
            · refine Reg.StepAt.plain (i := 2) rfl ?_
              intro L ev w hI hk hp hA
              have e132 : ev (.tmp 132) = .bool false := hA.val 1 _ 132 rfl (hp ⟨1, .data⟩ (by simp) rfl) rfl
              have hcc := hA.const
              clear hA hp
              refine Reg.out_value (v := .bool false) ?_ ⟨rfl, hrefl _, hI⟩
              go_simp
            · refine Reg.StepAt.guarded (i := 3) rfl ?_
              intro L ev w hI hk hp hA
              have e12 : ev (.tmp 12) = .pointer (some ⟨ab, 0, none⟩) := hA.oldNone 12 (by kernel_rfl)
              have eg : ev (.tmp 133) = .bool false := hA.val 2 _ 133 rfl (hp ⟨2, .guard⟩ (by simp) rfl) rfl
              refine ⟨_, 133, false, rfl, rfl, eg, ?_⟩
              rw [if_pos rfl]
              have hcc := hA.const
              clear hA hp
              refine Reg.out_value (v := .pointer (some ⟨ab, 0, none⟩)) ?_ ⟨rfl, hrefl _, hI⟩
              go_simp
            · refine Reg.StepAt.guarded (i := 4) rfl ?_
              intro L ev w hI hk hp hA
              have e134 : ev (.tmp 134) = .pointer (some ⟨ab, 0, none⟩) := hA.val 3 _ 134 rfl (hp ⟨3, .data⟩ (by simp) rfl) rfl
              have eg : ev (.tmp 133) = .bool false := hA.val 2 _ 133 rfl (hp ⟨2, .guard⟩ (by simp) rfl) rfl
              refine ⟨_, 133, false, rfl, rfl, eg, ?_⟩
              rw [if_pos rfl]
              have hcc := hA.const
              clear hA hp
              obtain ⟨f0, f1, f2, f3, f4, f5⟩ := FC4.out w hI
              refine Reg.out_value (v := .bool false) ?_ ⟨rfl, hrefl _, hI⟩
              go_simp
            · refine Reg.StepAt.guarded (i := 5) rfl ?_
              intro L ev w hI hk hp hA
              have e8 : ev (.tmp 8) = .slice (some ⟨hb, 0, none⟩) sh sh := hA.oldNone 8 (by kernel_rfl)
              have eg : ev (.tmp 133) = .bool false := hA.val 2 _ 133 rfl (hp ⟨2, .guard⟩ (by simp) rfl) rfl
              refine ⟨_, 133, false, rfl, rfl, eg, ?_⟩
              rw [if_pos rfl]
              have hcc := hA.const
              clear hA hp
              refine Reg.out_value (v := .slice (some ⟨hb, 0, none⟩) sh sh) ?_ ⟨rfl, hrefl _, hI⟩
              go_simp
            · refine Reg.StepAt.guarded (i := 6) rfl ?_
              intro L ev w hI hk hp hA
              have e14 : ev (.tmp 14) = .int .i64 (r : Int) := hA.oldNone 14 (by kernel_rfl)
              have eg : ev (.tmp 133) = .bool false := hA.val 2 _ 133 rfl (hp ⟨2, .guard⟩ (by simp) rfl) rfl
              refine ⟨_, 133, false, rfl, rfl, eg, ?_⟩
              rw [if_pos rfl]
              have hcc := hA.const
              clear hA hp
              refine Reg.out_value (v := .int .i64 (r : Int)) ?_ ⟨rfl, hrefl _, hI⟩
              go_simp
            · refine Reg.StepAt.guarded (i := 7) rfl ?_
              intro L ev w hI hk hp hA
              have e136 : ev (.tmp 136) = .slice (some ⟨hb, 0, none⟩) sh sh := hA.val 5 _ 136 rfl (hp ⟨5, .data⟩ (by simp) rfl) rfl
              have e137 : ev (.tmp 137) = .int .i64 (r : Int) := hA.val 6 _ 137 rfl (hp ⟨6, .data⟩ (by simp) rfl) rfl
              have eg : ev (.tmp 133) = .bool false := hA.val 2 _ 133 rfl (hp ⟨2, .guard⟩ (by simp) rfl) rfl
              refine ⟨_, 133, false, rfl, rfl, eg, ?_⟩
              rw [if_pos rfl]
              have hcc := hA.const
              clear hA hp
              refine Reg.out_value (v := .pointer (some ⟨hb, r, none⟩)) ?_ ⟨rfl, hrefl _, hI⟩
              go_simp
            · refine Reg.StepAt.guarded (i := 8) rfl ?_
              intro L ev w hI hk hp hA
              have e138 : ev (.tmp 138) = .pointer (some ⟨hb, r, none⟩) := hA.val 7 _ 138 rfl (hp ⟨7, .data⟩ (by simp) rfl) rfl
              have eg : ev (.tmp 133) = .bool false := hA.val 2 _ 133 rfl (hp ⟨2, .guard⟩ (by simp) rfl) rfl
              refine ⟨_, 133, false, rfl, rfl, eg, ?_⟩
              rw [if_pos rfl]
              have hcc := hA.const
              clear hA hp
              obtain ⟨f0, f1, f2, f3, f4, f5⟩ := FC4.out w hI
              refine Reg.out_value (v := .slice ar 0 cr) ?_ ⟨rfl, hrefl _, hI⟩
              go_simp
            · refine Reg.StepAt.guarded (i := 9) rfl ?_
              intro L ev w hI hk hp hA
              have e139 : ev (.tmp 139) = .slice ar 0 cr := hA.val 8 _ 139 rfl (hp ⟨8, .data⟩ (by simp) rfl) rfl
              have eg : ev (.tmp 133) = .bool false := hA.val 2 _ 133 rfl (hp ⟨2, .guard⟩ (by simp) rfl) rfl
              refine ⟨_, 133, false, rfl, rfl, eg, ?_⟩
              rw [if_pos rfl]
              have hcc := hA.const
              clear hA hp
              refine Reg.out_value (v := .int .i64 0) ?_ ⟨rfl, hrefl _, hI⟩
              go_simp
            · refine Reg.StepAt.guarded (i := 10) rfl ?_
              intro L ev w hI hk hp hA
              have e140 : ev (.tmp 140) = .int .i64 0 := hA.val 9 _ 140 rfl (hp ⟨9, .data⟩ (by simp) rfl) rfl
              have eg : ev (.tmp 133) = .bool false := hA.val 2 _ 133 rfl (hp ⟨2, .guard⟩ (by simp) rfl) rfl
              refine ⟨_, 133, false, rfl, rfl, eg, ?_⟩
              rw [if_pos rfl]
              have hcc := hA.const
              clear hA hp
              refine Reg.out_value (v := .bool false) ?_ ⟨rfl, hrefl _, hI⟩
              go_simp
            · refine Reg.StepAt.guarded (i := 11) rfl ?_
              intro L ev w hI hk hp hA
              have e135 : ev (.tmp 135) = .bool false := hA.val 4 _ 135 rfl (hp ⟨4, .data⟩ (by simp) rfl) rfl
              have e141 : ev (.tmp 141) = .bool false := hA.val 10 _ 141 rfl (hp ⟨10, .data⟩ (by simp) rfl) rfl
              have eg : ev (.tmp 133) = .bool false := hA.val 2 _ 133 rfl (hp ⟨2, .guard⟩ (by simp) rfl) rfl
              refine ⟨_, 133, false, rfl, rfl, eg, ?_⟩
              rw [if_pos rfl]
              have hcc := hA.const
              clear hA hp
              refine Reg.out_value (v := .bool false) ?_ ⟨rfl, hrefl _, hI⟩
              go_simp
            · refine Reg.StepAt.plain (i := 12) rfl ?_
              intro L ev w hI hk hp hA
              have e133 : ev (.tmp 133) = .bool false := hA.val 2 _ 133 rfl (hp ⟨2, .data⟩ (by simp) rfl) rfl
              have e142 : ev (.tmp 142) = .bool false := hA.val 11 _ 142 rfl (hp ⟨11, .data⟩ (by simp) rfl) rfl
              have hcc := hA.const
              clear hA hp
              refine Reg.out_value (v := .bool false) ?_ ⟨rfl, hrefl _, hI⟩
              go_simp
            · refine Reg.StepAt.plain (i := 13) rfl ?_
              intro L ev w hI hk hp hA
              have e143 : ev (.tmp 143) = .bool false := hA.val 12 _ 143 rfl (hp ⟨12, .data⟩ (by simp) rfl) rfl
              have hcc := hA.const
              clear hA hp
              refine Reg.out_value (v := .bool false) ?_ ⟨rfl, hrefl _, hI⟩
              go_simp
            · refine Reg.StepAt.guarded (i := 14) rfl ?_
              intro L ev w hI hk hp hA
              have e12 : ev (.tmp 12) = .pointer (some ⟨ab, 0, none⟩) := hA.oldNone 12 (by kernel_rfl)
              have eg : ev (.tmp 144) = .bool false := hA.val 13 _ 144 rfl (hp ⟨13, .guard⟩ (by simp) rfl) rfl
              refine ⟨_, 144, false, rfl, rfl, eg, ?_⟩
              rw [if_pos rfl]
              have hcc := hA.const
              clear hA hp
              refine Reg.out_value (v := .pointer (some ⟨ab, 0, none⟩)) ?_ ⟨rfl, hrefl _, hI⟩
              go_simp
            · refine Reg.StepAt.guarded (i := 15) rfl ?_
              intro L ev w hI hk hp hA
              have e145 : ev (.tmp 145) = .pointer (some ⟨ab, 0, none⟩) := hA.val 14 _ 145 rfl (hp ⟨14, .data⟩ (by simp) rfl) rfl
              have eg : ev (.tmp 144) = .bool false := hA.val 13 _ 144 rfl (hp ⟨13, .guard⟩ (by simp) rfl) rfl
              refine ⟨_, 144, false, rfl, rfl, eg, ?_⟩
              rw [if_pos rfl]
              have hcc := hA.const
              clear hA hp
              obtain ⟨f0, f1, f2, f3, f4, f5⟩ := FC4.out w hI
              refine Reg.out_value (v := .bool false) ?_ ⟨rfl, hrefl _, hI⟩
              go_simp
            · refine Reg.StepAt.guarded (i := 16) rfl ?_
              intro L ev w hI hk hp hA
              have e146 : ev (.tmp 146) = .bool false := hA.val 15 _ 146 rfl (hp ⟨15, .data⟩ (by simp) rfl) rfl
              have eg : ev (.tmp 144) = .bool false := hA.val 13 _ 144 rfl (hp ⟨13, .chain⟩ (by simp) rfl) rfl
              refine ⟨_, 144, false, rfl, rfl, eg, ?_⟩
              rw [if_pos rfl]
              have hcc := hA.const
              clear hA hp
              refine Reg.out_value (v := .bool false) ?_ ⟨rfl, hrefl _, hI⟩
              go_simp
            · refine Reg.StepAt.guarded (i := 17) rfl ?_
              intro L ev w hI hk hp hA
              have e12 : ev (.tmp 12) = .pointer (some ⟨ab, 0, none⟩) := hA.oldNone 12 (by kernel_rfl)
              have eg : ev (.tmp 147) = .bool false := hA.val 16 _ 147 rfl (hp ⟨16, .guard⟩ (by simp) rfl) rfl
              refine ⟨_, 147, false, rfl, rfl, eg, ?_⟩
              rw [if_neg (by decide)]
              have hcc := hA.const
              clear hA hp
              exact ⟨rfl, hI⟩
            · refine Reg.StepAt.guarded (i := 18) rfl ?_
              intro L ev w hI hk hp hA
              have e148 : (fun v _ => v = undef) (ev (.tmp 148)) w := hA.val 17 _ 148 rfl (hp ⟨17, .data⟩ (by simp) rfl) rfl
              have eg : ev (.tmp 147) = .bool false := hA.val 16 _ 147 rfl (hp ⟨16, .guard⟩ (by simp) rfl) rfl
              refine ⟨_, 147, false, rfl, rfl, eg, ?_⟩
              rw [if_neg (by decide)]
              have hcc := hA.const
              clear hA hp
              exact ⟨rfl, hI⟩
            · refine Reg.StepAt.guarded (i := 19) rfl ?_
              intro L ev w hI hk hp hA
              have e8 : ev (.tmp 8) = .slice (some ⟨hb, 0, none⟩) sh sh := hA.oldNone 8 (by kernel_rfl)
              have eg : ev (.tmp 147) = .bool false := hA.val 16 _ 147 rfl (hp ⟨16, .guard⟩ (by simp) rfl) rfl
              refine ⟨_, 147, false, rfl, rfl, eg, ?_⟩
              rw [if_neg (by decide)]
              have hcc := hA.const
              clear hA hp
              exact ⟨rfl, hI⟩
            · refine Reg.StepAt.guarded (i := 20) rfl ?_
              intro L ev w hI hk hp hA
              have e14 : ev (.tmp 14) = .int .i64 (r : Int) := hA.oldNone 14 (by kernel_rfl)
              have eg : ev (.tmp 147) = .bool false := hA.val 16 _ 147 rfl (hp ⟨16, .guard⟩ (by simp) rfl) rfl
              refine ⟨_, 147, false, rfl, rfl, eg, ?_⟩
              rw [if_neg (by decide)]
              have hcc := hA.const
              clear hA hp
              exact ⟨rfl, hI⟩
            · refine Reg.StepAt.guarded (i := 21) rfl ?_
              intro L ev w hI hk hp hA
              have e150 : (fun v _ => v = undef) (ev (.tmp 150)) w := hA.val 19 _ 150 rfl (hp ⟨19, .data⟩ (by simp) rfl) rfl
              have e151 : (fun v _ => v = undef) (ev (.tmp 151)) w := hA.val 20 _ 151 rfl (hp ⟨20, .data⟩ (by simp) rfl) rfl
              have eg : ev (.tmp 147) = .bool false := hA.val 16 _ 147 rfl (hp ⟨16, .guard⟩ (by simp) rfl) rfl
              refine ⟨_, 147, false, rfl, rfl, eg, ?_⟩
              rw [if_neg (by decide)]
              have hcc := hA.const
              clear hA hp
              exact ⟨rfl, hI⟩
            · refine Reg.StepAt.guarded (i := 22) rfl ?_
              intro L ev w hI hk hp hA
              have e152 : (fun v _ => v = undef) (ev (.tmp 152)) w := hA.val 21 _ 152 rfl (hp ⟨21, .data⟩ (by simp) rfl) rfl
              have eg : ev (.tmp 147) = .bool false := hA.val 16 _ 147 rfl (hp ⟨16, .guard⟩ (by simp) rfl) rfl
              refine ⟨_, 147, false, rfl, rfl, eg, ?_⟩
              rw [if_neg (by decide)]
              have hcc := hA.const
              clear hA hp
              exact ⟨rfl, hI⟩
            · refine Reg.StepAt.guarded (i := 23) rfl ?_
              intro L ev w hI hk hp hA
              have e153 : (fun v _ => v = undef) (ev (.tmp 153)) w := hA.val 22 _ 153 rfl (hp ⟨22, .data⟩ (by simp) rfl) rfl
              have eg : ev (.tmp 147) = .bool false := hA.val 16 _ 147 rfl (hp ⟨16, .guard⟩ (by simp) rfl) rfl
              refine ⟨_, 147, false, rfl, rfl, eg, ?_⟩
              rw [if_neg (by decide)]
              have hcc := hA.const
              clear hA hp
              exact ⟨rfl, hI⟩
            · refine Reg.StepAt.guarded (i := 24) rfl ?_
              intro L ev w hI hk hp hA
              have e154 : (fun v _ => v = undef) (ev (.tmp 154)) w := hA.val 23 _ 154 rfl (hp ⟨23, .data⟩ (by simp) rfl) rfl
              have eg : ev (.tmp 147) = .bool false := hA.val 16 _ 147 rfl (hp ⟨16, .guard⟩ (by simp) rfl) rfl
              refine ⟨_, 147, false, rfl, rfl, eg, ?_⟩
              rw [if_neg (by decide)]
              have hcc := hA.const
              clear hA hp
              exact ⟨rfl, hI⟩
            · refine Reg.StepAt.guarded (i := 25) rfl ?_
              intro L ev w hI hk hp hA
              have e149 : (fun v _ => v = undef) (ev (.tmp 149)) w := hA.val 18 _ 149 rfl (hp ⟨18, .data⟩ (by simp) rfl) rfl
              have e155 : (fun v _ => v = undef) (ev (.tmp 155)) w := hA.val 24 _ 155 rfl (hp ⟨24, .data⟩ (by simp) rfl) rfl
              have eg : ev (.tmp 147) = .bool false := hA.val 16 _ 147 rfl (hp ⟨16, .chain⟩ (by simp) rfl) rfl
              refine ⟨_, 147, false, rfl, rfl, eg, ?_⟩
              rw [if_neg (by decide)]
              have hcc := hA.const
              have hcf := hA.func
              clear hA hp
              exact ⟨rfl, hI⟩
            · refine Reg.StepAt.guarded (i := 26) rfl ?_
              intro L ev w hI hk hp hA
              have e156 : (fun v _ => v = undef) (ev (.tmp 156)) w := hA.val 25 _ 156 rfl (hp ⟨25, .data⟩ (by simp) rfl) rfl
              have eg : ev (.tmp 147) = .bool false := hA.val 16 _ 147 rfl (hp ⟨16, .guard⟩ (by simp) rfl) rfl
              refine ⟨_, 147, false, rfl, rfl, eg, ?_⟩
              rw [if_neg (by decide)]
              have hcc := hA.const
              clear hA hp
              exact ⟨rfl, hI⟩
            · refine Reg.StepAt.guarded (i := 27) rfl ?_
              intro L ev w hI hk hp hA
              have e147 : ev (.tmp 147) = .bool false := hA.val 16 _ 147 rfl (hp ⟨16, .data⟩ (by simp) rfl) rfl
              have e157 : (fun v _ => v = undef) (ev (.tmp 157)) w := hA.val 26 _ 157 rfl (hp ⟨26, .data⟩ (by simp) rfl) rfl
              have eg : ev (.tmp 144) = .bool false := hA.val 13 _ 144 rfl (hp ⟨13, .guard⟩ (by simp) rfl) rfl
              refine ⟨_, 144, false, rfl, rfl, eg, ?_⟩
              rw [if_pos rfl]
              have hcc := hA.const
              clear hA hp
              refine Reg.out_value (v := .bool false) ?_ ⟨rfl, hrefl _, hI⟩
              go_simp
            · refine Reg.StepAt.plain (i := 28) rfl ?_
              intro L ev w hI hk hp hA
              have e144 : ev (.tmp 144) = .bool false := hA.val 13 _ 144 rfl (hp ⟨13, .data⟩ (by simp) rfl) rfl
              have e158 : ev (.tmp 158) = .bool false := hA.val 27 _ 158 rfl (hp ⟨27, .data⟩ (by simp) rfl) rfl
              have hcc := hA.const
              clear hA hp
              refine Reg.out_value (v := .bool false) ?_ ⟨rfl, hrefl _, hI⟩
              go_simp
            intro L act wz hall hI hF
            have g131 : act.eval (.tmp 131) = .bool true := hF.val 0 _ 131 rfl (hall 0 (by simp)) rfl
            have g132 : act.eval (.tmp 132) = .bool false := hF.val 1 _ 132 rfl (hall 1 (by simp)) rfl
            have g133 : act.eval (.tmp 133) = .bool false := hF.val 2 _ 133 rfl (hall 2 (by simp)) rfl
            have g134 : act.eval (.tmp 134) = .pointer (some ⟨ab, 0, none⟩) := hF.val 3 _ 134 rfl (hall 3 (by simp)) rfl
            have g135 : act.eval (.tmp 135) = .bool false := hF.val 4 _ 135 rfl (hall 4 (by simp)) rfl
            have g136 : act.eval (.tmp 136) = .slice (some ⟨hb, 0, none⟩) sh sh := hF.val 5 _ 136 rfl (hall 5 (by simp)) rfl
            have g137 : act.eval (.tmp 137) = .int .i64 (r : Int) := hF.val 6 _ 137 rfl (hall 6 (by simp)) rfl
            have g138 : act.eval (.tmp 138) = .pointer (some ⟨hb, r, none⟩) := hF.val 7 _ 138 rfl (hall 7 (by simp)) rfl
            have g139 : act.eval (.tmp 139) = .slice ar 0 cr := hF.val 8 _ 139 rfl (hall 8 (by simp)) rfl
            have g140 : act.eval (.tmp 140) = .int .i64 0 := hF.val 9 _ 140 rfl (hall 9 (by simp)) rfl
            have g141 : act.eval (.tmp 141) = .bool false := hF.val 10 _ 141 rfl (hall 10 (by simp)) rfl
            have g142 : act.eval (.tmp 142) = .bool false := hF.val 11 _ 142 rfl (hall 11 (by simp)) rfl
            have g143 : act.eval (.tmp 143) = .bool false := hF.val 12 _ 143 rfl (hall 12 (by simp)) rfl
            have g144 : act.eval (.tmp 144) = .bool false := hF.val 13 _ 144 rfl (hall 13 (by simp)) rfl
            have g145 : act.eval (.tmp 145) = .pointer (some ⟨ab, 0, none⟩) := hF.val 14 _ 145 rfl (hall 14 (by simp)) rfl
            have g146 : act.eval (.tmp 146) = .bool false := hF.val 15 _ 146 rfl (hall 15 (by simp)) rfl
            have g147 : act.eval (.tmp 147) = .bool false := hF.val 16 _ 147 rfl (hall 16 (by simp)) rfl
            have g148 : (fun v _ => v = undef) (act.eval (.tmp 148)) wz := hF.val 17 _ 148 rfl (hall 17 (by simp)) rfl
            have g149 : (fun v _ => v = undef) (act.eval (.tmp 149)) wz := hF.val 18 _ 149 rfl (hall 18 (by simp)) rfl
            have g150 : (fun v _ => v = undef) (act.eval (.tmp 150)) wz := hF.val 19 _ 150 rfl (hall 19 (by simp)) rfl
            have g151 : (fun v _ => v = undef) (act.eval (.tmp 151)) wz := hF.val 20 _ 151 rfl (hall 20 (by simp)) rfl
            have g152 : (fun v _ => v = undef) (act.eval (.tmp 152)) wz := hF.val 21 _ 152 rfl (hall 21 (by simp)) rfl
            have g153 : (fun v _ => v = undef) (act.eval (.tmp 153)) wz := hF.val 22 _ 153 rfl (hall 22 (by simp)) rfl
            have g154 : (fun v _ => v = undef) (act.eval (.tmp 154)) wz := hF.val 23 _ 154 rfl (hall 23 (by simp)) rfl
            have g155 : (fun v _ => v = undef) (act.eval (.tmp 155)) wz := hF.val 24 _ 155 rfl (hall 24 (by simp)) rfl
            have g156 : (fun v _ => v = undef) (act.eval (.tmp 156)) wz := hF.val 25 _ 156 rfl (hall 25 (by simp)) rfl
            have g157 : (fun v _ => v = undef) (act.eval (.tmp 157)) wz := hF.val 26 _ 157 rfl (hall 26 (by simp)) rfl
            have g158 : act.eval (.tmp 158) = .bool false := hF.val 27 _ 158 rfl (hall 27 (by simp)) rfl
            have g159 : act.eval (.tmp 159) = .bool false := hF.val 28 _ 159 rfl (hall 28 (by simp)) rfl
            have hact := hF.act [131, 132, 133, 134, 135, 136, 137, 138, 139, 140, 141, 142, 143, 144, 145, 146, 147, 148, 149, 150, 151, 152, 153, 154, 155, 156, 157, 158, 159] (by kernel_rfl)
            clear hF hall
            simp only [List.foldl_cons, List.foldl_nil] at hact
            rw [g131, g132, g133, g134, g135, g136, g137, g138, g139, g140, g141, g142, g143, g144, g145, g146, g147, g158, g159] at hact
            clear g131 g132 g133 g134 g135 g136 g137 g138 g139 g140 g141 g142 g143 g144 g145 g146 g147 g158 g159
            generalize act.eval (.tmp 148) = u148 at hact g148
            generalize act.eval (.tmp 149) = u149 at hact g149
            generalize act.eval (.tmp 150) = u150 at hact g150
            generalize act.eval (.tmp 151) = u151 at hact g151
            generalize act.eval (.tmp 152) = u152 at hact g152
            generalize act.eval (.tmp 153) = u153 at hact g153
            generalize act.eval (.tmp 154) = u154 at hact g154
            generalize act.eval (.tmp 155) = u155 at hact g155
            generalize act.eval (.tmp 156) = u156 at hact g156
            generalize act.eval (.tmp 157) = u157 at hact g157
            simp only [List.setIfInBounds_toArray, List.set_cons_succ, List.set_cons_zero] at hact
            subst hact
            obtain ⟨W13, hw13⟩ : ∃ W13, W13 = wz := ⟨_, rfl⟩
            subst hw13
            have hI13 : Below W12.heap.size W12 W13 := hI
            obtain ⟨hcell, hI12, hrl, hL1, hcr⟩ := HCL.out
            have hT13 := hI12.trans (hI13.mono hI12.size)
            have FC5 := hidq (fun W (hW : Below W13.heap.size W13 W) => hcell W (hT13.trans (hW.mono hT13.size)))
            have HT13 := hidq hT13
            clear hcell hI12 hL1 hcr hI hI13 hT13 FC4
            go_wp2_with fail
            have hrefl : ∀ w : World, Reg.Keeps w w := Reg.Keeps.refl
            refine Reg.wp_region_props_tail 14 (Reg.ofList (mal23Rnone hb sh r cr ar)) Reg.Keeps (fun _ w => Reg.Keeps W13 w) (by kernel_rfl) (by kernel_rfl) (by kernel_rfl) (Reg.AllKept.at _ (mal23Rnone_kept hb sh r cr ar)) hrefl (Reg.Keeps.drewN (Reg.Keeps.refl _) 1) ⟨?_, ?_, ?_, ?_, ?_, ?_, ?_, ?_, ?_, ?_, ?_, ?_, ?_, ?_, trivial⟩ ?_
            · refine Reg.StepAt.plain (i := 0) rfl ?_
              intro L ev w hI hk hp hA
              have e8 : ev (.tmp 8) = .slice (some ⟨hb, 0, none⟩) sh sh := hA.oldNone 8 (by kernel_rfl)
              have hcc := hA.const
              clear hA hp
              refine Reg.out_value (v := .slice (some ⟨hb, 0, none⟩) sh sh) ?_ ⟨rfl, hrefl _, hI⟩
              go_simp
            · refine Reg.StepAt.plain (i := 1) rfl ?_
              intro L ev w hI hk hp hA
              have e14 : ev (.tmp 14) = .int .i64 (r : Int) := hA.oldNone 14 (by kernel_rfl)
              have hcc := hA.const
              clear hA hp
              refine Reg.out_value (v := .int .i64 (r : Int)) ?_ ⟨rfl, hrefl _, hI⟩
              go_simp
            · refine Reg.StepAt.plain (i := 2) rfl ?_
              intro L ev w hI hk hp hA
              have e8 : ev (.tmp 8) = .slice (some ⟨hb, 0, none⟩) sh sh := hA.oldNone 8 (by kernel_rfl)
              have hcc := hA.const
              clear hA hp
              refine Reg.out_value (v := .slice (some ⟨hb, 0, none⟩) sh sh) ?_ ⟨rfl, hrefl _, hI⟩
              go_simp
            · refine Reg.StepAt.plain (i := 3) rfl ?_
              intro L ev w hI hk hp hA
              have e14 : ev (.tmp 14) = .int .i64 (r : Int) := hA.oldNone 14 (by kernel_rfl)
              have hcc := hA.const
              clear hA hp
              refine Reg.out_value (v := .int .i64 (r : Int)) ?_ ⟨rfl, hrefl _, hI⟩
              go_simp
            · refine Reg.StepAt.plain (i := 4) rfl ?_
              intro L ev w hI hk hp hA
              have e162 : ev (.tmp 162) = .slice (some ⟨hb, 0, none⟩) sh sh := hA.val 2 _ 162 rfl (hp ⟨2, .data⟩ (by simp) rfl) rfl
              have e163 : ev (.tmp 163) = .int .i64 (r : Int) := hA.val 3 _ 163 rfl (hp ⟨3, .data⟩ (by simp) rfl) rfl
              have hcc := hA.const
              clear hA hp
              refine Reg.out_value (v := .pointer (some ⟨hb, r, none⟩)) ?_ ⟨rfl, hrefl _, hI⟩
              go_simp
            · refine Reg.StepAt.plain (i := 5) rfl ?_
              intro L ev w hI hk hp hA
              have e164 : ev (.tmp 164) = .pointer (some ⟨hb, r, none⟩) := hA.val 4 _ 164 rfl (hp ⟨4, .data⟩ (by simp) rfl) rfl
              have hcc := hA.const
              clear hA hp
              have f3 := FC5.out w hI
              refine Reg.out_value (v := .slice ar 0 cr) ?_ ⟨rfl, hrefl _, hI⟩
              go_simp
            · refine Reg.StepAt.plain (i := 6) rfl ?_
              intro L ev w hI hk hp hA
              have e8 : ev (.tmp 8) = .slice (some ⟨hb, 0, none⟩) sh sh := hA.oldNone 8 (by kernel_rfl)
              have hcc := hA.const
              clear hA hp
              refine Reg.out_value (v := .slice (some ⟨hb, 0, none⟩) sh sh) ?_ ⟨rfl, hrefl _, hI⟩
              go_simp
            · refine Reg.StepAt.plain (i := 7) rfl ?_
              intro L ev w hI hk hp hA
              have e14 : ev (.tmp 14) = .int .i64 (r : Int) := hA.oldNone 14 (by kernel_rfl)
              have hcc := hA.const
              clear hA hp
              refine Reg.out_value (v := .int .i64 (r : Int)) ?_ ⟨rfl, hrefl _, hI⟩
              go_simp
            · refine Reg.StepAt.plain (i := 8) rfl ?_
              intro L ev w hI hk hp hA
              have e166 : ev (.tmp 166) = .slice (some ⟨hb, 0, none⟩) sh sh := hA.val 6 _ 166 rfl (hp ⟨6, .data⟩ (by simp) rfl) rfl
              have e167 : ev (.tmp 167) = .int .i64 (r : Int) := hA.val 7 _ 167 rfl (hp ⟨7, .data⟩ (by simp) rfl) rfl
              have hcc := hA.const
              clear hA hp
              refine Reg.out_value (v := .pointer (some ⟨hb, r, none⟩)) ?_ ⟨rfl, hrefl _, hI⟩
              go_simp
            · refine Reg.StepAt.plain (i := 9) rfl ?_
              intro L ev w hI hk hp hA
              have e168 : ev (.tmp 168) = .pointer (some ⟨hb, r, none⟩) := hA.val 8 _ 168 rfl (hp ⟨8, .data⟩ (by simp) rfl) rfl
              have hcc := hA.const
              clear hA hp
              have f3 := FC5.out w hI
              refine Reg.out_value (v := .slice ar 0 cr) ?_ ⟨rfl, hrefl _, hI⟩
              go_simp
            · refine Reg.StepAt.plain (i := 10) rfl ?_
              intro L ev w hI hk hp hA
              have e169 : ev (.tmp 169) = .slice ar 0 cr := hA.val 9 _ 169 rfl (hp ⟨9, .data⟩ (by simp) rfl) rfl
              have hcc := hA.const
              clear hA hp
              refine Reg.out_value (v := .int .i64 0) ?_ ⟨rfl, hrefl _, hI⟩
              go_simp
            · refine Reg.StepAt.plain (i := 11) rfl ?_
              intro L ev w hI hk hp hA
              have e170 : ev (.tmp 170) = .int .i64 0 := hA.val 10 _ 170 rfl (hp ⟨10, .data⟩ (by simp) rfl) rfl
              have hcc := hA.const
              clear hA hp
              refine Reg.out_value (v := .int .i64 0) ?_ ⟨rfl, hrefl _, hI⟩
              (go_simp; try rfl)
            · refine Reg.StepAt.plain (i := 12) rfl ?_
              intro L ev w hI hk hp hA
              have e165 : ev (.tmp 165) = .slice ar 0 cr := hA.val 5 _ 165 rfl (hp ⟨5, .data⟩ (by simp) rfl) rfl
              have e171 : ev (.tmp 171) = .int .i64 0 := hA.val 11 _ 171 rfl (hp ⟨11, .data⟩ (by simp) rfl) rfl
              have hcc := hA.const
              clear hA hp
              refine Reg.out_value (v := .slice ar 0 cr) ?_ ⟨rfl, hrefl _, hI⟩
              (cases ar <;> go_simp)
            · refine Reg.StepAt.plain (i := 13) rfl ?_
              intro L ev w hI hk hp hA
              have e160 : ev (.tmp 160) = .slice (some ⟨hb, 0, none⟩) sh sh := hA.val 0 _ 160 rfl (hp ⟨0, .data⟩ (by simp) rfl) rfl
              have e161 : ev (.tmp 161) = .int .i64 (r : Int) := hA.val 1 _ 161 rfl (hp ⟨1, .data⟩ (by simp) rfl) rfl
              have hcc := hA.const
              clear hA hp
              refine Reg.out_value (v := .pointer (some ⟨hb, r, none⟩)) ?_ ⟨rfl, hrefl _, hI⟩
              go_simp
            intro act wz hI hF
            have g160 : act.eval (.tmp 160) = .slice (some ⟨hb, 0, none⟩) sh sh := hF.val 0 _ 160 rfl (by kernel_rfl) rfl
            have g161 : act.eval (.tmp 161) = .int .i64 (r : Int) := hF.val 1 _ 161 rfl (by kernel_rfl) rfl
            have g162 : act.eval (.tmp 162) = .slice (some ⟨hb, 0, none⟩) sh sh := hF.val 2 _ 162 rfl (by kernel_rfl) rfl
            have g163 : act.eval (.tmp 163) = .int .i64 (r : Int) := hF.val 3 _ 163 rfl (by kernel_rfl) rfl
            have g164 : act.eval (.tmp 164) = .pointer (some ⟨hb, r, none⟩) := hF.val 4 _ 164 rfl (by kernel_rfl) rfl
            have g165 : act.eval (.tmp 165) = .slice ar 0 cr := hF.val 5 _ 165 rfl (by kernel_rfl) rfl
            have g166 : act.eval (.tmp 166) = .slice (some ⟨hb, 0, none⟩) sh sh := hF.val 6 _ 166 rfl (by kernel_rfl) rfl
            have g167 : act.eval (.tmp 167) = .int .i64 (r : Int) := hF.val 7 _ 167 rfl (by kernel_rfl) rfl
            have g168 : act.eval (.tmp 168) = .pointer (some ⟨hb, r, none⟩) := hF.val 8 _ 168 rfl (by kernel_rfl) rfl
            have g169 : act.eval (.tmp 169) = .slice ar 0 cr := hF.val 9 _ 169 rfl (by kernel_rfl) rfl
            have g170 : act.eval (.tmp 170) = .int .i64 0 := hF.val 10 _ 170 rfl (by kernel_rfl) rfl
            have g171 : act.eval (.tmp 171) = .int .i64 0 := hF.val 11 _ 171 rfl (by kernel_rfl) rfl
            have g172 : act.eval (.tmp 172) = .slice ar 0 cr := hF.val 12 _ 172 rfl (by kernel_rfl) rfl
            have g173 : act.eval (.tmp 173) = .pointer (some ⟨hb, r, none⟩) := hF.val 13 _ 173 rfl (by kernel_rfl) rfl
            have hact := hF.actHead [160, 161, 162, 163, 164, 165, 166, 167, 168, 169, 170, 171, 172, 173] (by kernel_rfl)
            clear hF
            simp only [List.foldl_cons, List.foldl_nil] at hact
            rw [g160, g161, g162, g163, g164, g165, g166, g167, g168, g169, g170, g171, g172, g173] at hact
            clear g160 g161 g162 g163 g164 g165 g166 g167 g168 g169 g170 g171 g172 g173
            simp only [List.setIfInBounds_toArray, List.set_cons_succ, List.set_cons_zero] at hact
            subst hact
            simp only [List.drop_succ_cons, List.drop_zero]
            have hIz : Below W13.heap.size W13 wz := hI
            obtain ⟨hcell, hI12, _, hL1, hcr⟩ := HCL.out
            have hT := HT13.out.trans (hIz.mono HT13.out.size)
            have HZ := hidq (show MA w sb mb hb sh (i + 1) (upd a r ar) (upd c r cr) (upd Ls r []) (wz.setCell ⟨hb, r, none⟩ (.slice ar 0 cr)) from
              FIN.out wz r [] ar cr hT hL1 hrl (fun i h => absurd h (Nat.not_lt_zero _)) (Nat.zero_le _) (fun j hj => by
                obtain ⟨b1, b2, b3, b4⟩ := HR4.out j hj
                exact ⟨b1, Nat.lt_of_lt_of_le b2 hT.size, b3, b4⟩))
            obtain ⟨cz, fz⟩ := (HH.out.below hT).cell hrl
            have hbl : hb < wz.heap.size := (HH.out.below hT).box.lt
            clear hI hIz hcell hI12 hL1 hcr hT FIN HH HCL HR4 HT13 FC5
            go_wp2
            go_roundw
            case rel => exact ⟨i + 1, _, _, _, by go_num, by have := HLT.out; omega, HZ⟩
            case measure => simp [intOf]; omega
        rotate_left
        focus
          obtain ⟨hr, hL1, hcase, hpl, hql⟩ := HR.out
          obtain ⟨r1, r2, r3, r4⟩ := HH.out.row p hpl
          rw [hLp] at r1 r2 r3
          obtain ⟨gp, op, hap, hgl, e0, e1, _⟩ := r2.head
          obtain ⟨np, hnp⟩ : ∃ np, Kp.length + 1 = np := ⟨_, rfl⟩
          have hnp0 : 0 < np := by omega
          have hnpI : (0 : Int) < (np : Int) := by omega
          have hnpz : ¬ (np : Int) = 0 := by omega
          have hnpz2 : ((np : Int) == 0) = false := by simp; omega
          have hnpz3 : (np == 0) = false := by simp; omega
          obtain ⟨cpp, hcp⟩ : ∃ cpp, c p = cpp := ⟨_, rfl⟩
          obtain ⟨zq, hzq⟩ : ∃ zq, ni zp.b = zq := ⟨_, rfl⟩
          obtain ⟨zv, hzv⟩ : ∃ zv, zp.v = zv := ⟨_, rfl⟩
          rw [hzq] at e0
          rw [hzv] at e1
          have hpI : (p : Int) < (sh : Int) := by omega
          have hqI : (q : Int) < (sh : Int) := by omega
          have hcell : ∀ W, Below W10.heap.size W10 W → W.cell? ⟨hb, p, none⟩ = some (.slice (some ⟨gp, op, none⟩) np cpp) := fun W hW => by
            have q1 := ((HH.out.below hW).cell hpl).1
            rw [hLp, hap, hcp, show (zp :: Kp).length = np from hnp] at q1
            exact q1
          rcases hLq : Ls q with _ | ⟨zy, Ky⟩
          focus
            have hre : r = p := by rw [hr, hLp, hLq]; rfl
            obtain ⟨aq, haq⟩ : ∃ aq, a q = aq := ⟨_, rfl⟩
            obtain ⟨cqq, hcq⟩ : ∃ cqq, c q = cqq := ⟨_, rfl⟩
            have FC3 := hidq (fun W (hW : Below W10.heap.size W10 W) => (show W.cell? ⟨hb, p, none⟩ = some (.slice (some ⟨gp, op, none⟩) np cpp) ∧ W.cell? ⟨hb, q, none⟩ = some (.slice aq 0 cqq) ∧ True ∧ True ∧ True ∧ True from by
              have q1 := ((HH.out.below hW).cell hql).1
              rw [hLq, haq, hcq] at q1
              exact ⟨hcell W hW, q1, trivial, trivial, trivial, trivial⟩))
            have HLP := hidq (And.intro hLp hre)
            clear hr hL1 hcase hap hcp hLp hre hLq haq hcq hcell r1 r2 r3 r4 e0 e1 hgl hzq hzv hnp a0' a1' a2' hal' x0 x1 hxl
            go_wp2_with fail
            have hrefl : ∀ w : World, Reg.Keeps w w := Reg.Keeps.refl
            refine Reg.wp_region_props (Reg.ofList (mal19Rf hb sh p q np cpp cqq gp op aq)) Reg.Keeps (fun _ w => Reg.Keeps W10 w) (by kernel_rfl) (by kernel_rfl) (Reg.AllKept.at _ (mal19Rf_kept hb sh p q np cpp cqq gp op aq)) hrefl (Reg.Keeps.drewN (Reg.Keeps.refl _) 1) ⟨?_, ?_, ?_, ?_, ?_, ?_, ?_, ?_, ?_, ?_, ?_, ?_, ?_, ?_, ?_, ?_, ?_, ?_, ?_, ?_, ?_, ?_, ?_, ?_, ?_, ?_, ?_, ?_, ?_, ?_, trivial⟩ ?_
            · refine Reg.StepAt.plain (i := 0) rfl ?_
              intro L ev w hI hk hp hA
              have e8 : ev (.tmp 8) = .slice (some ⟨hb, 0, none⟩) sh sh := hA.oldNone 8 (by kernel_rfl)
              have hcc := hA.const
              clear hA hp
              refine Reg.out_value (v := .slice (some ⟨hb, 0, none⟩) sh sh) ?_ ⟨rfl, hrefl _, hI⟩
              go_simp
            · refine Reg.StepAt.plain (i := 1) rfl ?_
              intro L ev w hI hk hp hA
              have e14 : ev (.tmp 14) = .int .i64 (p : Int) := hA.oldNone 14 (by kernel_rfl)
              have hcc := hA.const
              clear hA hp
              refine Reg.out_value (v := .int .i64 (p : Int)) ?_ ⟨rfl, hrefl _, hI⟩
              go_simp
            · refine Reg.StepAt.plain (i := 2) rfl ?_
              intro L ev w hI hk hp hA
              have e100 : ev (.tmp 100) = .slice (some ⟨hb, 0, none⟩) sh sh := hA.val 0 _ 100 rfl (hp ⟨0, .data⟩ (by simp) rfl) rfl
              have e101 : ev (.tmp 101) = .int .i64 (p : Int) := hA.val 1 _ 101 rfl (hp ⟨1, .data⟩ (by simp) rfl) rfl
              have hcc := hA.const
              clear hA hp
              refine Reg.out_value (v := .pointer (some ⟨hb, p, none⟩)) ?_ ⟨rfl, hrefl _, hI⟩
              go_simp
            · refine Reg.StepAt.plain (i := 3) rfl ?_
              intro L ev w hI hk hp hA
              have e102 : ev (.tmp 102) = .pointer (some ⟨hb, p, none⟩) := hA.val 2 _ 102 rfl (hp ⟨2, .data⟩ (by simp) rfl) rfl
              have hcc := hA.const
              clear hA hp
              obtain ⟨f0, f1, f2, f3, f4, f5⟩ := FC3.out w hI
              refine Reg.out_value (v := .slice (some ⟨gp, op, none⟩) np cpp) ?_ ⟨rfl, hrefl _, hI⟩
              go_simp
            · refine Reg.StepAt.plain (i := 4) rfl ?_
              intro L ev w hI hk hp hA
              have e103 : ev (.tmp 103) = .slice (some ⟨gp, op, none⟩) np cpp := hA.val 3 _ 103 rfl (hp ⟨3, .data⟩ (by simp) rfl) rfl
              have hcc := hA.const
              clear hA hp
              refine Reg.out_value (v := .int .i64 (np : Int)) ?_ ⟨rfl, hrefl _, hI⟩
              go_simp
            · refine Reg.StepAt.plain (i := 5) rfl ?_
              intro L ev w hI hk hp hA
              have e104 : ev (.tmp 104) = .int .i64 (np : Int) := hA.val 4 _ 104 rfl (hp ⟨4, .data⟩ (by simp) rfl) rfl
              have hcc := hA.const
              clear hA hp
              refine Reg.out_value (v := .bool false) ?_ ⟨rfl, hrefl _, hI⟩
              go_simp
            · refine Reg.StepAt.plain (i := 6) rfl ?_
              intro L ev w hI hk hp hA
              have e105 : ev (.tmp 105) = .bool false := hA.val 5 _ 105 rfl (hp ⟨5, .data⟩ (by simp) rfl) rfl
              have hcc := hA.const
              clear hA hp
              refine Reg.out_value (v := .bool false) ?_ ⟨rfl, hrefl _, hI⟩
              go_simp
            · refine Reg.StepAt.guarded (i := 7) rfl ?_
              intro L ev w hI hk hp hA
              have e8 : ev (.tmp 8) = .slice (some ⟨hb, 0, none⟩) sh sh := hA.oldNone 8 (by kernel_rfl)
              have eg : ev (.tmp 106) = .bool false := hA.val 6 _ 106 rfl (hp ⟨6, .guard⟩ (by simp) rfl) rfl
              refine ⟨_, 106, false, rfl, rfl, eg, ?_⟩
              rw [if_pos rfl]
              have hcc := hA.const
              clear hA hp
              refine Reg.out_value (v := .slice (some ⟨hb, 0, none⟩) sh sh) ?_ ⟨rfl, hrefl _, hI⟩
              go_simp
            · refine Reg.StepAt.guarded (i := 8) rfl ?_
              intro L ev w hI hk hp hA
              have e15 : ev (.tmp 15) = .int .i64 (q : Int) := hA.oldNone 15 (by kernel_rfl)
              have eg : ev (.tmp 106) = .bool false := hA.val 6 _ 106 rfl (hp ⟨6, .guard⟩ (by simp) rfl) rfl
              refine ⟨_, 106, false, rfl, rfl, eg, ?_⟩
              rw [if_pos rfl]
              have hcc := hA.const
              clear hA hp
              refine Reg.out_value (v := .int .i64 (q : Int)) ?_ ⟨rfl, hrefl _, hI⟩
              go_simp
            · refine Reg.StepAt.guarded (i := 9) rfl ?_
              intro L ev w hI hk hp hA
              have e107 : ev (.tmp 107) = .slice (some ⟨hb, 0, none⟩) sh sh := hA.val 7 _ 107 rfl (hp ⟨7, .data⟩ (by simp) rfl) rfl
              have e108 : ev (.tmp 108) = .int .i64 (q : Int) := hA.val 8 _ 108 rfl (hp ⟨8, .data⟩ (by simp) rfl) rfl
              have eg : ev (.tmp 106) = .bool false := hA.val 6 _ 106 rfl (hp ⟨6, .guard⟩ (by simp) rfl) rfl
              refine ⟨_, 106, false, rfl, rfl, eg, ?_⟩
              rw [if_pos rfl]
              have hcc := hA.const
              clear hA hp
              refine Reg.out_value (v := .pointer (some ⟨hb, q, none⟩)) ?_ ⟨rfl, hrefl _, hI⟩
              go_simp
            · refine Reg.StepAt.guarded (i := 10) rfl ?_
              intro L ev w hI hk hp hA
              have e109 : ev (.tmp 109) = .pointer (some ⟨hb, q, none⟩) := hA.val 9 _ 109 rfl (hp ⟨9, .data⟩ (by simp) rfl) rfl
              have eg : ev (.tmp 106) = .bool false := hA.val 6 _ 106 rfl (hp ⟨6, .guard⟩ (by simp) rfl) rfl
              refine ⟨_, 106, false, rfl, rfl, eg, ?_⟩
              rw [if_pos rfl]
              have hcc := hA.const
              clear hA hp
              obtain ⟨f0, f1, f2, f3, f4, f5⟩ := FC3.out w hI
              refine Reg.out_value (v := .slice aq 0 cqq) ?_ ⟨rfl, hrefl _, hI⟩
              go_simp
            · refine Reg.StepAt.guarded (i := 11) rfl ?_
              intro L ev w hI hk hp hA
              have e110 : ev (.tmp 110) = .slice aq 0 cqq := hA.val 10 _ 110 rfl (hp ⟨10, .data⟩ (by simp) rfl) rfl
              have eg : ev (.tmp 106) = .bool false := hA.val 6 _ 106 rfl (hp ⟨6, .guard⟩ (by simp) rfl) rfl
              refine ⟨_, 106, false, rfl, rfl, eg, ?_⟩
              rw [if_pos rfl]
              have hcc := hA.const
              clear hA hp
              refine Reg.out_value (v := .int .i64 0) ?_ ⟨rfl, hrefl _, hI⟩
              go_simp
            · refine Reg.StepAt.guarded (i := 12) rfl ?_
              intro L ev w hI hk hp hA
              have e111 : ev (.tmp 111) = .int .i64 0 := hA.val 11 _ 111 rfl (hp ⟨11, .data⟩ (by simp) rfl) rfl
              have eg : ev (.tmp 106) = .bool false := hA.val 6 _ 106 rfl (hp ⟨6, .guard⟩ (by simp) rfl) rfl
              refine ⟨_, 106, false, rfl, rfl, eg, ?_⟩
              rw [if_pos rfl]
              have hcc := hA.const
              clear hA hp
              refine Reg.out_value (v := .bool false) ?_ ⟨rfl, hrefl _, hI⟩
              go_simp
            · refine Reg.StepAt.guarded (i := 13) rfl ?_
              intro L ev w hI hk hp hA
              have e112 : ev (.tmp 112) = .bool false := hA.val 12 _ 112 rfl (hp ⟨12, .data⟩ (by simp) rfl) rfl
              have eg : ev (.tmp 106) = .bool false := hA.val 6 _ 106 rfl (hp ⟨6, .chain⟩ (by simp) rfl) rfl
              refine ⟨_, 106, false, rfl, rfl, eg, ?_⟩
              rw [if_pos rfl]
              have hcc := hA.const
              clear hA hp
              refine Reg.out_value (v := .bool false) ?_ ⟨rfl, hrefl _, hI⟩
              go_simp
            · refine Reg.StepAt.guarded (i := 14) rfl ?_
              intro L ev w hI hk hp hA
              have e8 : ev (.tmp 8) = .slice (some ⟨hb, 0, none⟩) sh sh := hA.oldNone 8 (by kernel_rfl)
              have eg : ev (.tmp 113) = .bool false := hA.val 13 _ 113 rfl (hp ⟨13, .guard⟩ (by simp) rfl) rfl
              refine ⟨_, 113, false, rfl, rfl, eg, ?_⟩
              rw [if_neg (by decide)]
              have hcc := hA.const
              clear hA hp
              exact ⟨rfl, hI⟩
            · refine Reg.StepAt.guarded (i := 15) rfl ?_
              intro L ev w hI hk hp hA
              have e15 : ev (.tmp 15) = .int .i64 (q : Int) := hA.oldNone 15 (by kernel_rfl)
              have eg : ev (.tmp 113) = .bool false := hA.val 13 _ 113 rfl (hp ⟨13, .guard⟩ (by simp) rfl) rfl
              refine ⟨_, 113, false, rfl, rfl, eg, ?_⟩
              rw [if_neg (by decide)]
              have hcc := hA.const
              clear hA hp
              exact ⟨rfl, hI⟩
            · refine Reg.StepAt.guarded (i := 16) rfl ?_
              intro L ev w hI hk hp hA
              have e114 : (fun v _ => v = undef) (ev (.tmp 114)) w := hA.val 14 _ 114 rfl (hp ⟨14, .data⟩ (by simp) rfl) rfl
              have e115 : (fun v _ => v = undef) (ev (.tmp 115)) w := hA.val 15 _ 115 rfl (hp ⟨15, .data⟩ (by simp) rfl) rfl
              have eg : ev (.tmp 113) = .bool false := hA.val 13 _ 113 rfl (hp ⟨13, .guard⟩ (by simp) rfl) rfl
              refine ⟨_, 113, false, rfl, rfl, eg, ?_⟩
              rw [if_neg (by decide)]
              have hcc := hA.const
              clear hA hp
              exact ⟨rfl, hI⟩
            · refine Reg.StepAt.guarded (i := 17) rfl ?_
              intro L ev w hI hk hp hA
              have e116 : (fun v _ => v = undef) (ev (.tmp 116)) w := hA.val 16 _ 116 rfl (hp ⟨16, .data⟩ (by simp) rfl) rfl
              have eg : ev (.tmp 113) = .bool false := hA.val 13 _ 113 rfl (hp ⟨13, .guard⟩ (by simp) rfl) rfl
              refine ⟨_, 113, false, rfl, rfl, eg, ?_⟩
              rw [if_neg (by decide)]
              have hcc := hA.const
              clear hA hp
              exact ⟨rfl, hI⟩
            · refine Reg.StepAt.guarded (i := 18) rfl ?_
              intro L ev w hI hk hp hA
              have e117 : (fun v _ => v = undef) (ev (.tmp 117)) w := hA.val 17 _ 117 rfl (hp ⟨17, .data⟩ (by simp) rfl) rfl
              have eg : ev (.tmp 113) = .bool false := hA.val 13 _ 113 rfl (hp ⟨13, .guard⟩ (by simp) rfl) rfl
              refine ⟨_, 113, false, rfl, rfl, eg, ?_⟩
              rw [if_neg (by decide)]
              have hcc := hA.const
              clear hA hp
              exact ⟨rfl, hI⟩
            · refine Reg.StepAt.guarded (i := 19) rfl ?_
              intro L ev w hI hk hp hA
              have e118 : (fun v _ => v = undef) (ev (.tmp 118)) w := hA.val 18 _ 118 rfl (hp ⟨18, .data⟩ (by simp) rfl) rfl
              have eg : ev (.tmp 113) = .bool false := hA.val 13 _ 113 rfl (hp ⟨13, .guard⟩ (by simp) rfl) rfl
              refine ⟨_, 113, false, rfl, rfl, eg, ?_⟩
              rw [if_neg (by decide)]
              have hcc := hA.const
              clear hA hp
              exact ⟨rfl, hI⟩
            · refine Reg.StepAt.guarded (i := 20) rfl ?_
              intro L ev w hI hk hp hA
              have e8 : ev (.tmp 8) = .slice (some ⟨hb, 0, none⟩) sh sh := hA.oldNone 8 (by kernel_rfl)
              have eg : ev (.tmp 113) = .bool false := hA.val 13 _ 113 rfl (hp ⟨13, .guard⟩ (by simp) rfl) rfl
              refine ⟨_, 113, false, rfl, rfl, eg, ?_⟩
              rw [if_neg (by decide)]
              have hcc := hA.const
              clear hA hp
              exact ⟨rfl, hI⟩
            · refine Reg.StepAt.guarded (i := 21) rfl ?_
              intro L ev w hI hk hp hA
              have e14 : ev (.tmp 14) = .int .i64 (p : Int) := hA.oldNone 14 (by kernel_rfl)
              have eg : ev (.tmp 113) = .bool false := hA.val 13 _ 113 rfl (hp ⟨13, .guard⟩ (by simp) rfl) rfl
              refine ⟨_, 113, false, rfl, rfl, eg, ?_⟩
              rw [if_neg (by decide)]
              have hcc := hA.const
              clear hA hp
              exact ⟨rfl, hI⟩
            · refine Reg.StepAt.guarded (i := 22) rfl ?_
              intro L ev w hI hk hp hA
              have e120 : (fun v _ => v = undef) (ev (.tmp 120)) w := hA.val 20 _ 120 rfl (hp ⟨20, .data⟩ (by simp) rfl) rfl
              have e121 : (fun v _ => v = undef) (ev (.tmp 121)) w := hA.val 21 _ 121 rfl (hp ⟨21, .data⟩ (by simp) rfl) rfl
              have eg : ev (.tmp 113) = .bool false := hA.val 13 _ 113 rfl (hp ⟨13, .guard⟩ (by simp) rfl) rfl
              refine ⟨_, 113, false, rfl, rfl, eg, ?_⟩
              rw [if_neg (by decide)]
              have hcc := hA.const
              clear hA hp
              exact ⟨rfl, hI⟩
            · refine Reg.StepAt.guarded (i := 23) rfl ?_
              intro L ev w hI hk hp hA
              have e122 : (fun v _ => v = undef) (ev (.tmp 122)) w := hA.val 22 _ 122 rfl (hp ⟨22, .data⟩ (by simp) rfl) rfl
              have eg : ev (.tmp 113) = .bool false := hA.val 13 _ 113 rfl (hp ⟨13, .guard⟩ (by simp) rfl) rfl
              refine ⟨_, 113, false, rfl, rfl, eg, ?_⟩
              rw [if_neg (by decide)]
              have hcc := hA.const
              clear hA hp
              exact ⟨rfl, hI⟩
            · refine Reg.StepAt.guarded (i := 24) rfl ?_
              intro L ev w hI hk hp hA
              have e123 : (fun v _ => v = undef) (ev (.tmp 123)) w := hA.val 23 _ 123 rfl (hp ⟨23, .data⟩ (by simp) rfl) rfl
              have eg : ev (.tmp 113) = .bool false := hA.val 13 _ 113 rfl (hp ⟨13, .guard⟩ (by simp) rfl) rfl
              refine ⟨_, 113, false, rfl, rfl, eg, ?_⟩
              rw [if_neg (by decide)]
              have hcc := hA.const
              clear hA hp
              exact ⟨rfl, hI⟩
            · refine Reg.StepAt.guarded (i := 25) rfl ?_
              intro L ev w hI hk hp hA
              have e124 : (fun v _ => v = undef) (ev (.tmp 124)) w := hA.val 24 _ 124 rfl (hp ⟨24, .data⟩ (by simp) rfl) rfl
              have eg : ev (.tmp 113) = .bool false := hA.val 13 _ 113 rfl (hp ⟨13, .guard⟩ (by simp) rfl) rfl
              refine ⟨_, 113, false, rfl, rfl, eg, ?_⟩
              rw [if_neg (by decide)]
              have hcc := hA.const
              clear hA hp
              exact ⟨rfl, hI⟩
            · refine Reg.StepAt.guarded (i := 26) rfl ?_
              intro L ev w hI hk hp hA
              have e119 : (fun v _ => v = undef) (ev (.tmp 119)) w := hA.val 19 _ 119 rfl (hp ⟨19, .data⟩ (by simp) rfl) rfl
              have e125 : (fun v _ => v = undef) (ev (.tmp 125)) w := hA.val 25 _ 125 rfl (hp ⟨25, .data⟩ (by simp) rfl) rfl
              have eg : ev (.tmp 113) = .bool false := hA.val 13 _ 113 rfl (hp ⟨13, .chain⟩ (by simp) rfl) rfl
              refine ⟨_, 113, false, rfl, rfl, eg, ?_⟩
              rw [if_neg (by decide)]
              have hcc := hA.const
              have hcf := hA.func
              clear hA hp
              exact ⟨rfl, hI⟩
            · refine Reg.StepAt.guarded (i := 27) rfl ?_
              intro L ev w hI hk hp hA
              have e126 : (fun v _ => v = undef) (ev (.tmp 126)) w := hA.val 26 _ 126 rfl (hp ⟨26, .data⟩ (by simp) rfl) rfl
              have eg : ev (.tmp 113) = .bool false := hA.val 13 _ 113 rfl (hp ⟨13, .guard⟩ (by simp) rfl) rfl
              refine ⟨_, 113, false, rfl, rfl, eg, ?_⟩
              rw [if_neg (by decide)]
              have hcc := hA.const
              clear hA hp
              exact ⟨rfl, hI⟩
            · refine Reg.StepAt.guarded (i := 28) rfl ?_
              intro L ev w hI hk hp hA
              have e113 : ev (.tmp 113) = .bool false := hA.val 13 _ 113 rfl (hp ⟨13, .data⟩ (by simp) rfl) rfl
              have e127 : (fun v _ => v = undef) (ev (.tmp 127)) w := hA.val 27 _ 127 rfl (hp ⟨27, .data⟩ (by simp) rfl) rfl
              have eg : ev (.tmp 106) = .bool false := hA.val 6 _ 106 rfl (hp ⟨6, .guard⟩ (by simp) rfl) rfl
              refine ⟨_, 106, false, rfl, rfl, eg, ?_⟩
              rw [if_pos rfl]
              have hcc := hA.const
              clear hA hp
              refine Reg.out_value (v := .bool false) ?_ ⟨rfl, hrefl _, hI⟩
              go_simp
            · refine Reg.StepAt.plain (i := 29) rfl ?_
              intro L ev w hI hk hp hA
              have e106 : ev (.tmp 106) = .bool false := hA.val 6 _ 106 rfl (hp ⟨6, .data⟩ (by simp) rfl) rfl
              have e128 : ev (.tmp 128) = .bool false := hA.val 28 _ 128 rfl (hp ⟨28, .data⟩ (by simp) rfl) rfl
              have hcc := hA.const
              clear hA hp
              refine Reg.out_value (v := .bool false) ?_ ⟨rfl, hrefl _, hI⟩
              go_simp
            intro L act wz hall hI hF
            have g100 : act.eval (.tmp 100) = .slice (some ⟨hb, 0, none⟩) sh sh := hF.val 0 _ 100 rfl (hall 0 (by simp)) rfl
            have g101 : act.eval (.tmp 101) = .int .i64 (p : Int) := hF.val 1 _ 101 rfl (hall 1 (by simp)) rfl
            have g102 : act.eval (.tmp 102) = .pointer (some ⟨hb, p, none⟩) := hF.val 2 _ 102 rfl (hall 2 (by simp)) rfl
            have g103 : act.eval (.tmp 103) = .slice (some ⟨gp, op, none⟩) np cpp := hF.val 3 _ 103 rfl (hall 3 (by simp)) rfl
            have g104 : act.eval (.tmp 104) = .int .i64 (np : Int) := hF.val 4 _ 104 rfl (hall 4 (by simp)) rfl
            have g105 : act.eval (.tmp 105) = .bool false := hF.val 5 _ 105 rfl (hall 5 (by simp)) rfl
            have g106 : act.eval (.tmp 106) = .bool false := hF.val 6 _ 106 rfl (hall 6 (by simp)) rfl
            have g107 : act.eval (.tmp 107) = .slice (some ⟨hb, 0, none⟩) sh sh := hF.val 7 _ 107 rfl (hall 7 (by simp)) rfl
            have g108 : act.eval (.tmp 108) = .int .i64 (q : Int) := hF.val 8 _ 108 rfl (hall 8 (by simp)) rfl
            have g109 : act.eval (.tmp 109) = .pointer (some ⟨hb, q, none⟩) := hF.val 9 _ 109 rfl (hall 9 (by simp)) rfl
            have g110 : act.eval (.tmp 110) = .slice aq 0 cqq := hF.val 10 _ 110 rfl (hall 10 (by simp)) rfl
            have g111 : act.eval (.tmp 111) = .int .i64 0 := hF.val 11 _ 111 rfl (hall 11 (by simp)) rfl
            have g112 : act.eval (.tmp 112) = .bool false := hF.val 12 _ 112 rfl (hall 12 (by simp)) rfl
            have g113 : act.eval (.tmp 113) = .bool false := hF.val 13 _ 113 rfl (hall 13 (by simp)) rfl
            have g114 : (fun v _ => v = undef) (act.eval (.tmp 114)) wz := hF.val 14 _ 114 rfl (hall 14 (by simp)) rfl
            have g115 : (fun v _ => v = undef) (act.eval (.tmp 115)) wz := hF.val 15 _ 115 rfl (hall 15 (by simp)) rfl
            have g116 : (fun v _ => v = undef) (act.eval (.tmp 116)) wz := hF.val 16 _ 116 rfl (hall 16 (by simp)) rfl
            have g117 : (fun v _ => v = undef) (act.eval (.tmp 117)) wz := hF.val 17 _ 117 rfl (hall 17 (by simp)) rfl
            have g118 : (fun v _ => v = undef) (act.eval (.tmp 118)) wz := hF.val 18 _ 118 rfl (hall 18 (by simp)) rfl
            have g119 : (fun v _ => v = undef) (act.eval (.tmp 119)) wz := hF.val 19 _ 119 rfl (hall 19 (by simp)) rfl
            have g120 : (fun v _ => v = undef) (act.eval (.tmp 120)) wz := hF.val 20 _ 120 rfl (hall 20 (by simp)) rfl
            have g121 : (fun v _ => v = undef) (act.eval (.tmp 121)) wz := hF.val 21 _ 121 rfl (hall 21 (by simp)) rfl
            have g122 : (fun v _ => v = undef) (act.eval (.tmp 122)) wz := hF.val 22 _ 122 rfl (hall 22 (by simp)) rfl
            have g123 : (fun v _ => v = undef) (act.eval (.tmp 123)) wz := hF.val 23 _ 123 rfl (hall 23 (by simp)) rfl
            have g124 : (fun v _ => v = undef) (act.eval (.tmp 124)) wz := hF.val 24 _ 124 rfl (hall 24 (by simp)) rfl
            have g125 : (fun v _ => v = undef) (act.eval (.tmp 125)) wz := hF.val 25 _ 125 rfl (hall 25 (by simp)) rfl
            have g126 : (fun v _ => v = undef) (act.eval (.tmp 126)) wz := hF.val 26 _ 126 rfl (hall 26 (by simp)) rfl
            have g127 : (fun v _ => v = undef) (act.eval (.tmp 127)) wz := hF.val 27 _ 127 rfl (hall 27 (by simp)) rfl
            have g128 : act.eval (.tmp 128) = .bool false := hF.val 28 _ 128 rfl (hall 28 (by simp)) rfl
            have g129 : act.eval (.tmp 129) = .bool false := hF.val 29 _ 129 rfl (hall 29 (by simp)) rfl
            have hact := hF.act [100, 101, 102, 103, 104, 105, 106, 107, 108, 109, 110, 111, 112, 113, 114, 115, 116, 117, 118, 119, 120, 121, 122, 123, 124, 125, 126, 127, 128, 129] (by kernel_rfl)
            clear hF hall
            simp only [List.foldl_cons, List.foldl_nil] at hact
            rw [g100, g101, g102, g103, g104, g105, g106, g107, g108, g109, g110, g111, g112, g113, g128, g129] at hact
            clear g100 g101 g102 g103 g104 g105 g106 g107 g108 g109 g110 g111 g112 g113 g128 g129
            generalize act.eval (.tmp 114) = u114 at hact g114
            generalize act.eval (.tmp 115) = u115 at hact g115
            generalize act.eval (.tmp 116) = u116 at hact g116
            generalize act.eval (.tmp 117) = u117 at hact g117
            generalize act.eval (.tmp 118) = u118 at hact g118
            generalize act.eval (.tmp 119) = u119 at hact g119
            generalize act.eval (.tmp 120) = u120 at hact g120
            generalize act.eval (.tmp 121) = u121 at hact g121
            generalize act.eval (.tmp 122) = u122 at hact g122
            generalize act.eval (.tmp 123) = u123 at hact g123
            generalize act.eval (.tmp 124) = u124 at hact g124
            generalize act.eval (.tmp 125) = u125 at hact g125
            generalize act.eval (.tmp 126) = u126 at hact g126
            generalize act.eval (.tmp 127) = u127 at hact g127
            simp only [List.setIfInBounds_toArray, List.set_cons_succ, List.set_cons_zero] at hact
            subst hact
            obtain ⟨hLp, hre⟩ := HLP.out
            subst hre
            obtain ⟨W12, hw12⟩ : ∃ W12, W12 = wz := ⟨_, rfl⟩
            subst hw12
            have hI12 : Below W10.heap.size W10 W12 := hI
            clear hI
            obtain ⟨hr, hL1, hcase, hrl, _⟩ := HR.out
            rcases hcase with ⟨hLr, _, _, _⟩ | ⟨z, K, hz, hA⟩
            · rw [hLp] at hLr; cases hLr
          rotate_left
          focus
            obtain ⟨q1, q2, q3, q4⟩ := HH.out.row q hql
            rw [hLq] at q1 q2 q3
            obtain ⟨gq, oq, haq, hgl2, f0, f1, _⟩ := q2.head
            obtain ⟨nq, hnq⟩ : ∃ nq, Ky.length + 1 = nq := ⟨_, rfl⟩
            have hnq0 : 0 < nq := by omega
            have hnqI : (0 : Int) < (nq : Int) := by omega
            obtain ⟨cqq, hcq⟩ : ∃ cqq, c q = cqq := ⟨_, rfl⟩
            obtain ⟨bq, hbq⟩ : ∃ bq, ni zy.b = bq := ⟨_, rfl⟩
            obtain ⟨bv, hbv⟩ : ∃ bv, zy.v = bv := ⟨_, rfl⟩
            rw [hbq] at f0
            rw [hbv] at f1
            have FC3 := hidq (fun W (hW : Below W10.heap.size W10 W) => (show W.cell? ⟨hb, p, none⟩ = some (.slice (some ⟨gp, op, none⟩) np cpp) ∧ W.cell? ⟨hb, q, none⟩ = some (.slice (some ⟨gq, oq, none⟩) nq cqq) ∧ W.cell? ⟨gq, oq, none⟩ = some (.int .u64 bq) ∧ W.cell? ⟨gq, oq + 1, none⟩ = some (.int .i64 bv) ∧ W.cell? ⟨gp, op, none⟩ = some (.int .u64 zq) ∧ W.cell? ⟨gp, op + 1, none⟩ = some (.int .i64 zv) from by
              have q1 := ((HH.out.below hW).cell hql).1
              rw [hLq, haq, hcq, show (zy :: Ky).length = nq from hnq] at q1
              exact ⟨hcell W hW, q1, (hW.cell (p := ⟨gq, oq, none⟩) hgl2).trans f0, (hW.cell (p := ⟨gq, oq + 1, none⟩) hgl2).trans f1, (hW.cell (p := ⟨gp, op, none⟩) hgl).trans e0, (hW.cell (p := ⟨gp, op + 1, none⟩) hgl).trans e1⟩))
            have hCm0 := fun W => rcmp4_any bq bv zq zv W (by rw [← hbq]; unfold ni; omega) (by rw [← hbq]; have := zy.ok.1; unfold ni; omega) (by rw [← hzq]; unfold ni; omega) (by rw [← hzq]; have := zp.ok.1; unfold ni; omega)
            have hlt0 : zy.lt zp = decide (cmpN (nf bq) bv (nf zq) zv < 0) := by rw [← hbq, ← hzq, ← hbv, ← hzv]; rfl
            obtain ⟨cc, hcc⟩ : ∃ cc, cmpN (nf bq) bv (nf zq) zv = cc := ⟨_, rfl⟩
            rw [hcc] at hCm0 hlt0
            have hCm := hidq hCm0
            by_cases hneg : cc < 0
            focus
              have hre : r = q := by rw [hr, hLp, hLq]; unfold mMove; dsimp only; rw [if_pos (by rw [hlt0]; exact decide_eq_true hneg)]
              have hLq2 := hLq
              have HLP := hidq (And.intro hLq2 hre)
              clear hr hL1 hcase hap hcp hLp hre hLq hLq2 haq hcq hcell r1 r2 r3 r4 q1 q2 q3 q4 e0 e1 f0 f1 hgl hgl2 hzq hzv hbq hbv hnp hnq hCm0 hlt0 hcc a0' a1' a2' hal' x0 x1 hxl
              go_wp2_with fail
              have hrefl : ∀ w : World, Reg.Keeps w w := Reg.Keeps.refl
              refine Reg.wp_region_props (Reg.ofList (mal19Rgt hb sh p q np nq cpp cqq gp op gq oq bq bv zq zv cc)) Reg.Keeps (fun _ w => Reg.Keeps W10 w) (by kernel_rfl) (by kernel_rfl) (Reg.AllKept.at _ (mal19Rgt_kept hb sh p q np nq cpp cqq gp op gq oq bq bv zq zv cc)) hrefl (Reg.Keeps.drewN (Reg.Keeps.refl _) 1) ⟨?_, ?_, ?_, ?_, ?_, ?_, ?_, ?_, ?_, ?_, ?_, ?_, ?_, ?_, ?_, ?_, ?_, ?_, ?_, ?_, ?_, ?_, ?_, ?_, ?_, ?_, ?_, ?_, ?_, ?_, trivial⟩ ?_
              · refine Reg.StepAt.plain (i := 0) rfl ?_
                intro L ev w hI hk hp hA
                have e8 : ev (.tmp 8) = .slice (some ⟨hb, 0, none⟩) sh sh := hA.oldNone 8 (by kernel_rfl)
                have hcc := hA.const
                clear hA hp
                refine Reg.out_value (v := .slice (some ⟨hb, 0, none⟩) sh sh) ?_ ⟨rfl, hrefl _, hI⟩
                go_simp
              · refine Reg.StepAt.plain (i := 1) rfl ?_
                intro L ev w hI hk hp hA
                have e14 : ev (.tmp 14) = .int .i64 (p : Int) := hA.oldNone 14 (by kernel_rfl)
                have hcc := hA.const
                clear hA hp
                refine Reg.out_value (v := .int .i64 (p : Int)) ?_ ⟨rfl, hrefl _, hI⟩
                go_simp
              · refine Reg.StepAt.plain (i := 2) rfl ?_
                intro L ev w hI hk hp hA
                have e100 : ev (.tmp 100) = .slice (some ⟨hb, 0, none⟩) sh sh := hA.val 0 _ 100 rfl (hp ⟨0, .data⟩ (by simp) rfl) rfl
                have e101 : ev (.tmp 101) = .int .i64 (p : Int) := hA.val 1 _ 101 rfl (hp ⟨1, .data⟩ (by simp) rfl) rfl
                have hcc := hA.const
                clear hA hp
                refine Reg.out_value (v := .pointer (some ⟨hb, p, none⟩)) ?_ ⟨rfl, hrefl _, hI⟩
                go_simp
              · refine Reg.StepAt.plain (i := 3) rfl ?_
                intro L ev w hI hk hp hA
                have e102 : ev (.tmp 102) = .pointer (some ⟨hb, p, none⟩) := hA.val 2 _ 102 rfl (hp ⟨2, .data⟩ (by simp) rfl) rfl
                have hcc := hA.const
                clear hA hp
                obtain ⟨f0, f1, f2, f3, f4, f5⟩ := FC3.out w hI
                refine Reg.out_value (v := .slice (some ⟨gp, op, none⟩) np cpp) ?_ ⟨rfl, hrefl _, hI⟩
                go_simp
              · refine Reg.StepAt.plain (i := 4) rfl ?_
                intro L ev w hI hk hp hA
                have e103 : ev (.tmp 103) = .slice (some ⟨gp, op, none⟩) np cpp := hA.val 3 _ 103 rfl (hp ⟨3, .data⟩ (by simp) rfl) rfl
                have hcc := hA.const
                clear hA hp
                refine Reg.out_value (v := .int .i64 (np : Int)) ?_ ⟨rfl, hrefl _, hI⟩
                go_simp
              · refine Reg.StepAt.plain (i := 5) rfl ?_
                intro L ev w hI hk hp hA
                have e104 : ev (.tmp 104) = .int .i64 (np : Int) := hA.val 4 _ 104 rfl (hp ⟨4, .data⟩ (by simp) rfl) rfl
                have hcc := hA.const
                clear hA hp
                refine Reg.out_value (v := .bool false) ?_ ⟨rfl, hrefl _, hI⟩
                go_simp
              · refine Reg.StepAt.plain (i := 6) rfl ?_
                intro L ev w hI hk hp hA
                have e105 : ev (.tmp 105) = .bool false := hA.val 5 _ 105 rfl (hp ⟨5, .data⟩ (by simp) rfl) rfl
                have hcc := hA.const
                clear hA hp
                refine Reg.out_value (v := .bool false) ?_ ⟨rfl, hrefl _, hI⟩
                go_simp
              · refine Reg.StepAt.guarded (i := 7) rfl ?_
                intro L ev w hI hk hp hA
                have e8 : ev (.tmp 8) = .slice (some ⟨hb, 0, none⟩) sh sh := hA.oldNone 8 (by kernel_rfl)
                have eg : ev (.tmp 106) = .bool false := hA.val 6 _ 106 rfl (hp ⟨6, .guard⟩ (by simp) rfl) rfl
                refine ⟨_, 106, false, rfl, rfl, eg, ?_⟩
                rw [if_pos rfl]
                have hcc := hA.const
                clear hA hp
                refine Reg.out_value (v := .slice (some ⟨hb, 0, none⟩) sh sh) ?_ ⟨rfl, hrefl _, hI⟩
                go_simp
              · refine Reg.StepAt.guarded (i := 8) rfl ?_
                intro L ev w hI hk hp hA
                have e15 : ev (.tmp 15) = .int .i64 (q : Int) := hA.oldNone 15 (by kernel_rfl)
                have eg : ev (.tmp 106) = .bool false := hA.val 6 _ 106 rfl (hp ⟨6, .guard⟩ (by simp) rfl) rfl
                refine ⟨_, 106, false, rfl, rfl, eg, ?_⟩
                rw [if_pos rfl]
                have hcc := hA.const
                clear hA hp
                refine Reg.out_value (v := .int .i64 (q : Int)) ?_ ⟨rfl, hrefl _, hI⟩
                go_simp
              · refine Reg.StepAt.guarded (i := 9) rfl ?_
                intro L ev w hI hk hp hA
                have e107 : ev (.tmp 107) = .slice (some ⟨hb, 0, none⟩) sh sh := hA.val 7 _ 107 rfl (hp ⟨7, .data⟩ (by simp) rfl) rfl
                have e108 : ev (.tmp 108) = .int .i64 (q : Int) := hA.val 8 _ 108 rfl (hp ⟨8, .data⟩ (by simp) rfl) rfl
                have eg : ev (.tmp 106) = .bool false := hA.val 6 _ 106 rfl (hp ⟨6, .guard⟩ (by simp) rfl) rfl
                refine ⟨_, 106, false, rfl, rfl, eg, ?_⟩
                rw [if_pos rfl]
                have hcc := hA.const
                clear hA hp
                refine Reg.out_value (v := .pointer (some ⟨hb, q, none⟩)) ?_ ⟨rfl, hrefl _, hI⟩
                go_simp
              · refine Reg.StepAt.guarded (i := 10) rfl ?_
                intro L ev w hI hk hp hA
                have e109 : ev (.tmp 109) = .pointer (some ⟨hb, q, none⟩) := hA.val 9 _ 109 rfl (hp ⟨9, .data⟩ (by simp) rfl) rfl
                have eg : ev (.tmp 106) = .bool false := hA.val 6 _ 106 rfl (hp ⟨6, .guard⟩ (by simp) rfl) rfl
                refine ⟨_, 106, false, rfl, rfl, eg, ?_⟩
                rw [if_pos rfl]
                have hcc := hA.const
                clear hA hp
                obtain ⟨f0, f1, f2, f3, f4, f5⟩ := FC3.out w hI
                refine Reg.out_value (v := .slice (some ⟨gq, oq, none⟩) nq cqq) ?_ ⟨rfl, hrefl _, hI⟩
                go_simp
              · refine Reg.StepAt.guarded (i := 11) rfl ?_
                intro L ev w hI hk hp hA
                have e110 : ev (.tmp 110) = .slice (some ⟨gq, oq, none⟩) nq cqq := hA.val 10 _ 110 rfl (hp ⟨10, .data⟩ (by simp) rfl) rfl
                have eg : ev (.tmp 106) = .bool false := hA.val 6 _ 106 rfl (hp ⟨6, .guard⟩ (by simp) rfl) rfl
                refine ⟨_, 106, false, rfl, rfl, eg, ?_⟩
                rw [if_pos rfl]
                have hcc := hA.const
                clear hA hp
                refine Reg.out_value (v := .int .i64 (nq : Int)) ?_ ⟨rfl, hrefl _, hI⟩
                go_simp
              · refine Reg.StepAt.guarded (i := 12) rfl ?_
                intro L ev w hI hk hp hA
                have e111 : ev (.tmp 111) = .int .i64 (nq : Int) := hA.val 11 _ 111 rfl (hp ⟨11, .data⟩ (by simp) rfl) rfl
                have eg : ev (.tmp 106) = .bool false := hA.val 6 _ 106 rfl (hp ⟨6, .guard⟩ (by simp) rfl) rfl
                refine ⟨_, 106, false, rfl, rfl, eg, ?_⟩
                rw [if_pos rfl]
                have hcc := hA.const
                clear hA hp
                refine Reg.out_value (v := .bool true) ?_ ⟨rfl, hrefl _, hI⟩
                go_simp
              · refine Reg.StepAt.guarded (i := 13) rfl ?_
                intro L ev w hI hk hp hA
                have e112 : ev (.tmp 112) = .bool true := hA.val 12 _ 112 rfl (hp ⟨12, .data⟩ (by simp) rfl) rfl
                have eg : ev (.tmp 106) = .bool false := hA.val 6 _ 106 rfl (hp ⟨6, .chain⟩ (by simp) rfl) rfl
                refine ⟨_, 106, false, rfl, rfl, eg, ?_⟩
                rw [if_pos rfl]
                have hcc := hA.const
                clear hA hp
                refine Reg.out_value (v := .bool true) ?_ ⟨rfl, hrefl _, hI⟩
                go_simp
              · refine Reg.StepAt.guarded (i := 14) rfl ?_
                intro L ev w hI hk hp hA
                have e8 : ev (.tmp 8) = .slice (some ⟨hb, 0, none⟩) sh sh := hA.oldNone 8 (by kernel_rfl)
                have eg : ev (.tmp 113) = .bool true := hA.val 13 _ 113 rfl (hp ⟨13, .guard⟩ (by simp) rfl) rfl
                refine ⟨_, 113, true, rfl, rfl, eg, ?_⟩
                rw [if_pos rfl]
                have hcc := hA.const
                clear hA hp
                refine Reg.out_value (v := .slice (some ⟨hb, 0, none⟩) sh sh) ?_ ⟨rfl, hrefl _, hI⟩
                go_simp
              · refine Reg.StepAt.guarded (i := 15) rfl ?_
                intro L ev w hI hk hp hA
                have e15 : ev (.tmp 15) = .int .i64 (q : Int) := hA.oldNone 15 (by kernel_rfl)
                have eg : ev (.tmp 113) = .bool true := hA.val 13 _ 113 rfl (hp ⟨13, .guard⟩ (by simp) rfl) rfl
                refine ⟨_, 113, true, rfl, rfl, eg, ?_⟩
                rw [if_pos rfl]
                have hcc := hA.const
                clear hA hp
                refine Reg.out_value (v := .int .i64 (q : Int)) ?_ ⟨rfl, hrefl _, hI⟩
                go_simp
              · refine Reg.StepAt.guarded (i := 16) rfl ?_
                intro L ev w hI hk hp hA
                have e114 : ev (.tmp 114) = .slice (some ⟨hb, 0, none⟩) sh sh := hA.val 14 _ 114 rfl (hp ⟨14, .data⟩ (by simp) rfl) rfl
                have e115 : ev (.tmp 115) = .int .i64 (q : Int) := hA.val 15 _ 115 rfl (hp ⟨15, .data⟩ (by simp) rfl) rfl
                have eg : ev (.tmp 113) = .bool true := hA.val 13 _ 113 rfl (hp ⟨13, .guard⟩ (by simp) rfl) rfl
                refine ⟨_, 113, true, rfl, rfl, eg, ?_⟩
                rw [if_pos rfl]
                have hcc := hA.const
                clear hA hp
                refine Reg.out_value (v := .pointer (some ⟨hb, q, none⟩)) ?_ ⟨rfl, hrefl _, hI⟩
                go_simp
              · refine Reg.StepAt.guarded (i := 17) rfl ?_
                intro L ev w hI hk hp hA
                have e116 : ev (.tmp 116) = .pointer (some ⟨hb, q, none⟩) := hA.val 16 _ 116 rfl (hp ⟨16, .data⟩ (by simp) rfl) rfl
                have eg : ev (.tmp 113) = .bool true := hA.val 13 _ 113 rfl (hp ⟨13, .guard⟩ (by simp) rfl) rfl
                refine ⟨_, 113, true, rfl, rfl, eg, ?_⟩
                rw [if_pos rfl]
                have hcc := hA.const
                clear hA hp
                obtain ⟨f0, f1, f2, f3, f4, f5⟩ := FC3.out w hI
                refine Reg.out_value (v := .slice (some ⟨gq, oq, none⟩) nq cqq) ?_ ⟨rfl, hrefl _, hI⟩
                go_simp
              · refine Reg.StepAt.guarded (i := 18) rfl ?_
                intro L ev w hI hk hp hA
                have e117 : ev (.tmp 117) = .slice (some ⟨gq, oq, none⟩) nq cqq := hA.val 17 _ 117 rfl (hp ⟨17, .data⟩ (by simp) rfl) rfl
                have eg : ev (.tmp 113) = .bool true := hA.val 13 _ 113 rfl (hp ⟨13, .guard⟩ (by simp) rfl) rfl
                refine ⟨_, 113, true, rfl, rfl, eg, ?_⟩
                rw [if_pos rfl]
                have hcc := hA.const
                clear hA hp
                refine Reg.out_value (v := .pointer (some ⟨gq, oq, none⟩)) ?_ ⟨rfl, hrefl _, hI⟩
                go_simp
              · refine Reg.StepAt.guarded (i := 19) rfl ?_
                intro L ev w hI hk hp hA
                have e118 : ev (.tmp 118) = .pointer (some ⟨gq, oq, none⟩) := hA.val 18 _ 118 rfl (hp ⟨18, .data⟩ (by simp) rfl) rfl
                have eg : ev (.tmp 113) = .bool true := hA.val 13 _ 113 rfl (hp ⟨13, .guard⟩ (by simp) rfl) rfl
                refine ⟨_, 113, true, rfl, rfl, eg, ?_⟩
                rw [if_pos rfl]
                have hcc := hA.const
                clear hA hp
                obtain ⟨f0, f1, f2, f3, f4, f5⟩ := FC3.out w hI
                refine Reg.out_value (v := .agg #[.int .u64 bq, .int .i64 bv]) ?_ ⟨rfl, hrefl _, hI⟩
                go_simp
              · refine Reg.StepAt.guarded (i := 20) rfl ?_
                intro L ev w hI hk hp hA
                have e8 : ev (.tmp 8) = .slice (some ⟨hb, 0, none⟩) sh sh := hA.oldNone 8 (by kernel_rfl)
                have eg : ev (.tmp 113) = .bool true := hA.val 13 _ 113 rfl (hp ⟨13, .guard⟩ (by simp) rfl) rfl
                refine ⟨_, 113, true, rfl, rfl, eg, ?_⟩
                rw [if_pos rfl]
                have hcc := hA.const
                clear hA hp
                refine Reg.out_value (v := .slice (some ⟨hb, 0, none⟩) sh sh) ?_ ⟨rfl, hrefl _, hI⟩
                go_simp
              · refine Reg.StepAt.guarded (i := 21) rfl ?_
                intro L ev w hI hk hp hA
                have e14 : ev (.tmp 14) = .int .i64 (p : Int) := hA.oldNone 14 (by kernel_rfl)
                have eg : ev (.tmp 113) = .bool true := hA.val 13 _ 113 rfl (hp ⟨13, .guard⟩ (by simp) rfl) rfl
                refine ⟨_, 113, true, rfl, rfl, eg, ?_⟩
                rw [if_pos rfl]
                have hcc := hA.const
                clear hA hp
                refine Reg.out_value (v := .int .i64 (p : Int)) ?_ ⟨rfl, hrefl _, hI⟩
                go_simp
              · refine Reg.StepAt.guarded (i := 22) rfl ?_
                intro L ev w hI hk hp hA
                have e120 : ev (.tmp 120) = .slice (some ⟨hb, 0, none⟩) sh sh := hA.val 20 _ 120 rfl (hp ⟨20, .data⟩ (by simp) rfl) rfl
                have e121 : ev (.tmp 121) = .int .i64 (p : Int) := hA.val 21 _ 121 rfl (hp ⟨21, .data⟩ (by simp) rfl) rfl
                have eg : ev (.tmp 113) = .bool true := hA.val 13 _ 113 rfl (hp ⟨13, .guard⟩ (by simp) rfl) rfl
                refine ⟨_, 113, true, rfl, rfl, eg, ?_⟩
                rw [if_pos rfl]
                have hcc := hA.const
                clear hA hp
                refine Reg.out_value (v := .pointer (some ⟨hb, p, none⟩)) ?_ ⟨rfl, hrefl _, hI⟩
                go_simp
              · refine Reg.StepAt.guarded (i := 23) rfl ?_
                intro L ev w hI hk hp hA
                have e122 : ev (.tmp 122) = .pointer (some ⟨hb, p, none⟩) := hA.val 22 _ 122 rfl (hp ⟨22, .data⟩ (by simp) rfl) rfl
                have eg : ev (.tmp 113) = .bool true := hA.val 13 _ 113 rfl (hp ⟨13, .guard⟩ (by simp) rfl) rfl
                refine ⟨_, 113, true, rfl, rfl, eg, ?_⟩
                rw [if_pos rfl]
                have hcc := hA.const
                clear hA hp
                obtain ⟨f0, f1, f2, f3, f4, f5⟩ := FC3.out w hI
                refine Reg.out_value (v := .slice (some ⟨gp, op, none⟩) np cpp) ?_ ⟨rfl, hrefl _, hI⟩
                go_simp
              · refine Reg.StepAt.guarded (i := 24) rfl ?_
                intro L ev w hI hk hp hA
                have e123 : ev (.tmp 123) = .slice (some ⟨gp, op, none⟩) np cpp := hA.val 23 _ 123 rfl (hp ⟨23, .data⟩ (by simp) rfl) rfl
                have eg : ev (.tmp 113) = .bool true := hA.val 13 _ 113 rfl (hp ⟨13, .guard⟩ (by simp) rfl) rfl
                refine ⟨_, 113, true, rfl, rfl, eg, ?_⟩
                rw [if_pos rfl]
                have hcc := hA.const
                clear hA hp
                refine Reg.out_value (v := .pointer (some ⟨gp, op, none⟩)) ?_ ⟨rfl, hrefl _, hI⟩
                go_simp
              · refine Reg.StepAt.guarded (i := 25) rfl ?_
                intro L ev w hI hk hp hA
                have e124 : ev (.tmp 124) = .pointer (some ⟨gp, op, none⟩) := hA.val 24 _ 124 rfl (hp ⟨24, .data⟩ (by simp) rfl) rfl
                have eg : ev (.tmp 113) = .bool true := hA.val 13 _ 113 rfl (hp ⟨13, .guard⟩ (by simp) rfl) rfl
                refine ⟨_, 113, true, rfl, rfl, eg, ?_⟩
                rw [if_pos rfl]
                have hcc := hA.const
                clear hA hp
                obtain ⟨f0, f1, f2, f3, f4, f5⟩ := FC3.out w hI
                refine Reg.out_value (v := .agg #[.int .u64 zq, .int .i64 zv]) ?_ ⟨rfl, hrefl _, hI⟩
                go_simp
              · refine Reg.StepAt.guarded (i := 26) rfl ?_
                intro L ev w hI hk hp hA
                have e119 : ev (.tmp 119) = .agg #[.int .u64 bq, .int .i64 bv] := hA.val 19 _ 119 rfl (hp ⟨19, .data⟩ (by simp) rfl) rfl
                have e125 : ev (.tmp 125) = .agg #[.int .u64 zq, .int .i64 zv] := hA.val 25 _ 125 rfl (hp ⟨25, .data⟩ (by simp) rfl) rfl
                have eg : ev (.tmp 113) = .bool true := hA.val 13 _ 113 rfl (hp ⟨13, .chain⟩ (by simp) rfl) rfl
                refine ⟨_, 113, true, rfl, rfl, eg, ?_⟩
                rw [if_pos rfl]
                have hcc := hA.const
                have hcf := hA.func
                clear hA hp
                refine Reg.out_call (f := 16) (args := #[.agg #[.int .u64 bq, .int .i64 bv], .agg #[.int .u64 zq, .int .i64 zv]]) (w0 := w) ?_ ?_
                · go_simp
                refine (hCm.out w).mono ?_
                rintro e w' ⟨rfl, hb'⟩
                exact ⟨_, rfl, rfl, hb', Reg.Keeps.trans hI hb'⟩
              · refine Reg.StepAt.guarded (i := 27) rfl ?_
                intro L ev w hI hk hp hA
                have e126 : ev (.tmp 126) = .int .i64 cc := hA.val 26 _ 126 rfl (hp ⟨26, .data⟩ (by simp) rfl) rfl
                have eg : ev (.tmp 113) = .bool true := hA.val 13 _ 113 rfl (hp ⟨13, .guard⟩ (by simp) rfl) rfl
                refine ⟨_, 113, true, rfl, rfl, eg, ?_⟩
                rw [if_pos rfl]
                have hcc := hA.const
                clear hA hp
                refine Reg.out_value (v := .bool true) ?_ ⟨rfl, hrefl _, hI⟩
                go_simp
              · refine Reg.StepAt.guarded (i := 28) rfl ?_
                intro L ev w hI hk hp hA
                have e113 : ev (.tmp 113) = .bool true := hA.val 13 _ 113 rfl (hp ⟨13, .data⟩ (by simp) rfl) rfl
                have e127 : ev (.tmp 127) = .bool true := hA.val 27 _ 127 rfl (hp ⟨27, .data⟩ (by simp) rfl) rfl
                have eg : ev (.tmp 106) = .bool false := hA.val 6 _ 106 rfl (hp ⟨6, .guard⟩ (by simp) rfl) rfl
                refine ⟨_, 106, false, rfl, rfl, eg, ?_⟩
                rw [if_pos rfl]
                have hcc := hA.const
                clear hA hp
                refine Reg.out_value (v := .bool true) ?_ ⟨rfl, hrefl _, hI⟩
                go_simp
              · refine Reg.StepAt.plain (i := 29) rfl ?_
                intro L ev w hI hk hp hA
                have e106 : ev (.tmp 106) = .bool false := hA.val 6 _ 106 rfl (hp ⟨6, .data⟩ (by simp) rfl) rfl
                have e128 : ev (.tmp 128) = .bool true := hA.val 28 _ 128 rfl (hp ⟨28, .data⟩ (by simp) rfl) rfl
                have hcc := hA.const
                clear hA hp
                refine Reg.out_value (v := .bool true) ?_ ⟨rfl, hrefl _, hI⟩
                go_simp
              intro L act wz hall hI hF
              have g100 : act.eval (.tmp 100) = .slice (some ⟨hb, 0, none⟩) sh sh := hF.val 0 _ 100 rfl (hall 0 (by simp)) rfl
              have g101 : act.eval (.tmp 101) = .int .i64 (p : Int) := hF.val 1 _ 101 rfl (hall 1 (by simp)) rfl
              have g102 : act.eval (.tmp 102) = .pointer (some ⟨hb, p, none⟩) := hF.val 2 _ 102 rfl (hall 2 (by simp)) rfl
              have g103 : act.eval (.tmp 103) = .slice (some ⟨gp, op, none⟩) np cpp := hF.val 3 _ 103 rfl (hall 3 (by simp)) rfl
              have g104 : act.eval (.tmp 104) = .int .i64 (np : Int) := hF.val 4 _ 104 rfl (hall 4 (by simp)) rfl
              have g105 : act.eval (.tmp 105) = .bool false := hF.val 5 _ 105 rfl (hall 5 (by simp)) rfl
              have g106 : act.eval (.tmp 106) = .bool false := hF.val 6 _ 106 rfl (hall 6 (by simp)) rfl
              have g107 : act.eval (.tmp 107) = .slice (some ⟨hb, 0, none⟩) sh sh := hF.val 7 _ 107 rfl (hall 7 (by simp)) rfl
              have g108 : act.eval (.tmp 108) = .int .i64 (q : Int) := hF.val 8 _ 108 rfl (hall 8 (by simp)) rfl
              have g109 : act.eval (.tmp 109) = .pointer (some ⟨hb, q, none⟩) := hF.val 9 _ 109 rfl (hall 9 (by simp)) rfl
              have g110 : act.eval (.tmp 110) = .slice (some ⟨gq, oq, none⟩) nq cqq := hF.val 10 _ 110 rfl (hall 10 (by simp)) rfl
              have g111 : act.eval (.tmp 111) = .int .i64 (nq : Int) := hF.val 11 _ 111 rfl (hall 11 (by simp)) rfl
              have g112 : act.eval (.tmp 112) = .bool true := hF.val 12 _ 112 rfl (hall 12 (by simp)) rfl
              have g113 : act.eval (.tmp 113) = .bool true := hF.val 13 _ 113 rfl (hall 13 (by simp)) rfl
              have g114 : act.eval (.tmp 114) = .slice (some ⟨hb, 0, none⟩) sh sh := hF.val 14 _ 114 rfl (hall 14 (by simp)) rfl
              have g115 : act.eval (.tmp 115) = .int .i64 (q : Int) := hF.val 15 _ 115 rfl (hall 15 (by simp)) rfl
              have g116 : act.eval (.tmp 116) = .pointer (some ⟨hb, q, none⟩) := hF.val 16 _ 116 rfl (hall 16 (by simp)) rfl
              have g117 : act.eval (.tmp 117) = .slice (some ⟨gq, oq, none⟩) nq cqq := hF.val 17 _ 117 rfl (hall 17 (by simp)) rfl
              have g118 : act.eval (.tmp 118) = .pointer (some ⟨gq, oq, none⟩) := hF.val 18 _ 118 rfl (hall 18 (by simp)) rfl
              have g119 : act.eval (.tmp 119) = .agg #[.int .u64 bq, .int .i64 bv] := hF.val 19 _ 119 rfl (hall 19 (by simp)) rfl
              have g120 : act.eval (.tmp 120) = .slice (some ⟨hb, 0, none⟩) sh sh := hF.val 20 _ 120 rfl (hall 20 (by simp)) rfl
              have g121 : act.eval (.tmp 121) = .int .i64 (p : Int) := hF.val 21 _ 121 rfl (hall 21 (by simp)) rfl
              have g122 : act.eval (.tmp 122) = .pointer (some ⟨hb, p, none⟩) := hF.val 22 _ 122 rfl (hall 22 (by simp)) rfl
              have g123 : act.eval (.tmp 123) = .slice (some ⟨gp, op, none⟩) np cpp := hF.val 23 _ 123 rfl (hall 23 (by simp)) rfl
              have g124 : act.eval (.tmp 124) = .pointer (some ⟨gp, op, none⟩) := hF.val 24 _ 124 rfl (hall 24 (by simp)) rfl
              have g125 : act.eval (.tmp 125) = .agg #[.int .u64 zq, .int .i64 zv] := hF.val 25 _ 125 rfl (hall 25 (by simp)) rfl
              have g126 : act.eval (.tmp 126) = .int .i64 cc := hF.val 26 _ 126 rfl (hall 26 (by simp)) rfl
              have g127 : act.eval (.tmp 127) = .bool true := hF.val 27 _ 127 rfl (hall 27 (by simp)) rfl
              have g128 : act.eval (.tmp 128) = .bool true := hF.val 28 _ 128 rfl (hall 28 (by simp)) rfl
              have g129 : act.eval (.tmp 129) = .bool true := hF.val 29 _ 129 rfl (hall 29 (by simp)) rfl
              have hact := hF.act [100, 101, 102, 103, 104, 105, 106, 107, 108, 109, 110, 111, 112, 113, 114, 115, 116, 117, 118, 119, 120, 121, 122, 123, 124, 125, 126, 127, 128, 129] (by kernel_rfl)
              clear hF hall
              simp only [List.foldl_cons, List.foldl_nil] at hact
              rw [g100, g101, g102, g103, g104, g105, g106, g107, g108, g109, g110, g111, g112, g113, g114, g115, g116, g117, g118, g119, g120, g121, g122, g123, g124, g125, g126, g127, g128, g129] at hact
              clear g100 g101 g102 g103 g104 g105 g106 g107 g108 g109 g110 g111 g112 g113 g114 g115 g116 g117 g118 g119 g120 g121 g122 g123 g124 g125 g126 g127 g128 g129
              simp only [List.setIfInBounds_toArray, List.set_cons_succ, List.set_cons_zero] at hact
              subst hact
              obtain ⟨hLp, hre⟩ := HLP.out
              subst hre
              obtain ⟨W12, hw12⟩ : ∃ W12, W12 = wz := ⟨_, rfl⟩
              subst hw12
              have hI12 : Below W10.heap.size W10 W12 := hI
              clear hI
              obtain ⟨hr, hL1, hcase, _, hrl⟩ := HR.out
              rcases hcase with ⟨hLr, _, _, _⟩ | ⟨z, K, hz, hA⟩
              · rw [hLp] at hLr; cases hLr
            rotate_left
            focus
              have hre : r = p := by rw [hr, hLp, hLq]; unfold mMove; dsimp only; rw [if_neg (by rw [hlt0, decide_eq_false hneg]; simp)]
              have hnegd : decide (cc < 0) = false := decide_eq_false hneg
              have HLP := hidq (And.intro hLp hre)
              clear hr hL1 hcase hap hcp hLp hre hLq haq hcq hcell r1 r2 r3 r4 q1 q2 q3 q4 e0 e1 f0 f1 hgl hgl2 hzq hzv hbq hbv hnp hnq hCm0 hlt0 hcc a0' a1' a2' hal' x0 x1 hxl
              go_wp2_with fail
              have hrefl : ∀ w : World, Reg.Keeps w w := Reg.Keeps.refl
              refine Reg.wp_region_props (Reg.ofList (mal19Rgf hb sh p q np nq cpp cqq gp op gq oq bq bv zq zv cc)) Reg.Keeps (fun _ w => Reg.Keeps W10 w) (by kernel_rfl) (by kernel_rfl) (Reg.AllKept.at _ (mal19Rgf_kept hb sh p q np nq cpp cqq gp op gq oq bq bv zq zv cc)) hrefl (Reg.Keeps.drewN (Reg.Keeps.refl _) 1) ⟨?_, ?_, ?_, ?_, ?_, ?_, ?_, ?_, ?_, ?_, ?_, ?_, ?_, ?_, ?_, ?_, ?_, ?_, ?_, ?_, ?_, ?_, ?_, ?_, ?_, ?_, ?_, ?_, ?_, ?_, trivial⟩ ?_
              · refine Reg.StepAt.plain (i := 0) rfl ?_
                intro L ev w hI hk hp hA
                have e8 : ev (.tmp 8) = .slice (some ⟨hb, 0, none⟩) sh sh := hA.oldNone 8 (by kernel_rfl)
                have hcc := hA.const
                clear hA hp
                refine Reg.out_value (v := .slice (some ⟨hb, 0, none⟩) sh sh) ?_ ⟨rfl, hrefl _, hI⟩
                go_simp
              · refine Reg.StepAt.plain (i := 1) rfl ?_
                intro L ev w hI hk hp hA
                have e14 : ev (.tmp 14) = .int .i64 (p : Int) := hA.oldNone 14 (by kernel_rfl)
                have hcc := hA.const
                clear hA hp
                refine Reg.out_value (v := .int .i64 (p : Int)) ?_ ⟨rfl, hrefl _, hI⟩
                go_simp
              · refine Reg.StepAt.plain (i := 2) rfl ?_
                intro L ev w hI hk hp hA
                have e100 : ev (.tmp 100) = .slice (some ⟨hb, 0, none⟩) sh sh := hA.val 0 _ 100 rfl (hp ⟨0, .data⟩ (by simp) rfl) rfl
                have e101 : ev (.tmp 101) = .int .i64 (p : Int) := hA.val 1 _ 101 rfl (hp ⟨1, .data⟩ (by simp) rfl) rfl
                have hcc := hA.const
                clear hA hp
                refine Reg.out_value (v := .pointer (some ⟨hb, p, none⟩)) ?_ ⟨rfl, hrefl _, hI⟩
                go_simp
              · refine Reg.StepAt.plain (i := 3) rfl ?_
                intro L ev w hI hk hp hA
                have e102 : ev (.tmp 102) = .pointer (some ⟨hb, p, none⟩) := hA.val 2 _ 102 rfl (hp ⟨2, .data⟩ (by simp) rfl) rfl
                have hcc := hA.const
                clear hA hp
                obtain ⟨f0, f1, f2, f3, f4, f5⟩ := FC3.out w hI
                refine Reg.out_value (v := .slice (some ⟨gp, op, none⟩) np cpp) ?_ ⟨rfl, hrefl _, hI⟩
                go_simp
              · refine Reg.StepAt.plain (i := 4) rfl ?_
                intro L ev w hI hk hp hA
                have e103 : ev (.tmp 103) = .slice (some ⟨gp, op, none⟩) np cpp := hA.val 3 _ 103 rfl (hp ⟨3, .data⟩ (by simp) rfl) rfl
                have hcc := hA.const
                clear hA hp
                refine Reg.out_value (v := .int .i64 (np : Int)) ?_ ⟨rfl, hrefl _, hI⟩
                go_simp
              · refine Reg.StepAt.plain (i := 5) rfl ?_
                intro L ev w hI hk hp hA
                have e104 : ev (.tmp 104) = .int .i64 (np : Int) := hA.val 4 _ 104 rfl (hp ⟨4, .data⟩ (by simp) rfl) rfl
                have hcc := hA.const
                clear hA hp
                refine Reg.out_value (v := .bool false) ?_ ⟨rfl, hrefl _, hI⟩
                go_simp
              · refine Reg.StepAt.plain (i := 6) rfl ?_
                intro L ev w hI hk hp hA
                have e105 : ev (.tmp 105) = .bool false := hA.val 5 _ 105 rfl (hp ⟨5, .data⟩ (by simp) rfl) rfl
                have hcc := hA.const
                clear hA hp
                refine Reg.out_value (v := .bool false) ?_ ⟨rfl, hrefl _, hI⟩
                go_simp
              · refine Reg.StepAt.guarded (i := 7) rfl ?_
                intro L ev w hI hk hp hA
                have e8 : ev (.tmp 8) = .slice (some ⟨hb, 0, none⟩) sh sh := hA.oldNone 8 (by kernel_rfl)
                have eg : ev (.tmp 106) = .bool false := hA.val 6 _ 106 rfl (hp ⟨6, .guard⟩ (by simp) rfl) rfl
                refine ⟨_, 106, false, rfl, rfl, eg, ?_⟩
                rw [if_pos rfl]
                have hcc := hA.const
                clear hA hp
                refine Reg.out_value (v := .slice (some ⟨hb, 0, none⟩) sh sh) ?_ ⟨rfl, hrefl _, hI⟩
                go_simp
              · refine Reg.StepAt.guarded (i := 8) rfl ?_
                intro L ev w hI hk hp hA
                have e15 : ev (.tmp 15) = .int .i64 (q : Int) := hA.oldNone 15 (by kernel_rfl)
                have eg : ev (.tmp 106) = .bool false := hA.val 6 _ 106 rfl (hp ⟨6, .guard⟩ (by simp) rfl) rfl
                refine ⟨_, 106, false, rfl, rfl, eg, ?_⟩
                rw [if_pos rfl]
                have hcc := hA.const
                clear hA hp
                refine Reg.out_value (v := .int .i64 (q : Int)) ?_ ⟨rfl, hrefl _, hI⟩
                go_simp
              · refine Reg.StepAt.guarded (i := 9) rfl ?_
                intro L ev w hI hk hp hA
                have e107 : ev (.tmp 107) = .slice (some ⟨hb, 0, none⟩) sh sh := hA.val 7 _ 107 rfl (hp ⟨7, .data⟩ (by simp) rfl) rfl
                have e108 : ev (.tmp 108) = .int .i64 (q : Int) := hA.val 8 _ 108 rfl (hp ⟨8, .data⟩ (by simp) rfl) rfl
                have eg : ev (.tmp 106) = .bool false := hA.val 6 _ 106 rfl (hp ⟨6, .guard⟩ (by simp) rfl) rfl
                refine ⟨_, 106, false, rfl, rfl, eg, ?_⟩
                rw [if_pos rfl]
                have hcc := hA.const
                clear hA hp
                refine Reg.out_value (v := .pointer (some ⟨hb, q, none⟩)) ?_ ⟨rfl, hrefl _, hI⟩
                go_simp
              · refine Reg.StepAt.guarded (i := 10) rfl ?_
                intro L ev w hI hk hp hA
                have e109 : ev (.tmp 109) = .pointer (some ⟨hb, q, none⟩) := hA.val 9 _ 109 rfl (hp ⟨9, .data⟩ (by simp) rfl) rfl
                have eg : ev (.tmp 106) = .bool false := hA.val 6 _ 106 rfl (hp ⟨6, .guard⟩ (by simp) rfl) rfl
                refine ⟨_, 106, false, rfl, rfl, eg, ?_⟩
                rw [if_pos rfl]
                have hcc := hA.const
                clear hA hp
                obtain ⟨f0, f1, f2, f3, f4, f5⟩ := FC3.out w hI
                refine Reg.out_value (v := .slice (some ⟨gq, oq, none⟩) nq cqq) ?_ ⟨rfl, hrefl _, hI⟩
                go_simp
              · refine Reg.StepAt.guarded (i := 11) rfl ?_
                intro L ev w hI hk hp hA
                have e110 : ev (.tmp 110) = .slice (some ⟨gq, oq, none⟩) nq cqq := hA.val 10 _ 110 rfl (hp ⟨10, .data⟩ (by simp) rfl) rfl
                have eg : ev (.tmp 106) = .bool false := hA.val 6 _ 106 rfl (hp ⟨6, .guard⟩ (by simp) rfl) rfl
                refine ⟨_, 106, false, rfl, rfl, eg, ?_⟩
                rw [if_pos rfl]
                have hcc := hA.const
                clear hA hp
                refine Reg.out_value (v := .int .i64 (nq : Int)) ?_ ⟨rfl, hrefl _, hI⟩
                go_simp
              · refine Reg.StepAt.guarded (i := 12) rfl ?_
                intro L ev w hI hk hp hA
                have e111 : ev (.tmp 111) = .int .i64 (nq : Int) := hA.val 11 _ 111 rfl (hp ⟨11, .data⟩ (by simp) rfl) rfl
                have eg : ev (.tmp 106) = .bool false := hA.val 6 _ 106 rfl (hp ⟨6, .guard⟩ (by simp) rfl) rfl
                refine ⟨_, 106, false, rfl, rfl, eg, ?_⟩
                rw [if_pos rfl]
                have hcc := hA.const
                clear hA hp
                refine Reg.out_value (v := .bool true) ?_ ⟨rfl, hrefl _, hI⟩
                go_simp
              · refine Reg.StepAt.guarded (i := 13) rfl ?_
                intro L ev w hI hk hp hA
                have e112 : ev (.tmp 112) = .bool true := hA.val 12 _ 112 rfl (hp ⟨12, .data⟩ (by simp) rfl) rfl
                have eg : ev (.tmp 106) = .bool false := hA.val 6 _ 106 rfl (hp ⟨6, .chain⟩ (by simp) rfl) rfl
                refine ⟨_, 106, false, rfl, rfl, eg, ?_⟩
                rw [if_pos rfl]
                have hcc := hA.const
                clear hA hp
                refine Reg.out_value (v := .bool true) ?_ ⟨rfl, hrefl _, hI⟩
                go_simp
              · refine Reg.StepAt.guarded (i := 14) rfl ?_
                intro L ev w hI hk hp hA
                have e8 : ev (.tmp 8) = .slice (some ⟨hb, 0, none⟩) sh sh := hA.oldNone 8 (by kernel_rfl)
                have eg : ev (.tmp 113) = .bool true := hA.val 13 _ 113 rfl (hp ⟨13, .guard⟩ (by simp) rfl) rfl
                refine ⟨_, 113, true, rfl, rfl, eg, ?_⟩
                rw [if_pos rfl]
                have hcc := hA.const
                clear hA hp
                refine Reg.out_value (v := .slice (some ⟨hb, 0, none⟩) sh sh) ?_ ⟨rfl, hrefl _, hI⟩
                go_simp
              · refine Reg.StepAt.guarded (i := 15) rfl ?_
                intro L ev w hI hk hp hA
                have e15 : ev (.tmp 15) = .int .i64 (q : Int) := hA.oldNone 15 (by kernel_rfl)
                have eg : ev (.tmp 113) = .bool true := hA.val 13 _ 113 rfl (hp ⟨13, .guard⟩ (by simp) rfl) rfl
                refine ⟨_, 113, true, rfl, rfl, eg, ?_⟩
                rw [if_pos rfl]
                have hcc := hA.const
                clear hA hp
                refine Reg.out_value (v := .int .i64 (q : Int)) ?_ ⟨rfl, hrefl _, hI⟩
                go_simp
              · refine Reg.StepAt.guarded (i := 16) rfl ?_
                intro L ev w hI hk hp hA
                have e114 : ev (.tmp 114) = .slice (some ⟨hb, 0, none⟩) sh sh := hA.val 14 _ 114 rfl (hp ⟨14, .data⟩ (by simp) rfl) rfl
                have e115 : ev (.tmp 115) = .int .i64 (q : Int) := hA.val 15 _ 115 rfl (hp ⟨15, .data⟩ (by simp) rfl) rfl
                have eg : ev (.tmp 113) = .bool true := hA.val 13 _ 113 rfl (hp ⟨13, .guard⟩ (by simp) rfl) rfl
                refine ⟨_, 113, true, rfl, rfl, eg, ?_⟩
                rw [if_pos rfl]
                have hcc := hA.const
                clear hA hp
                refine Reg.out_value (v := .pointer (some ⟨hb, q, none⟩)) ?_ ⟨rfl, hrefl _, hI⟩
                go_simp
              · refine Reg.StepAt.guarded (i := 17) rfl ?_
                intro L ev w hI hk hp hA
                have e116 : ev (.tmp 116) = .pointer (some ⟨hb, q, none⟩) := hA.val 16 _ 116 rfl (hp ⟨16, .data⟩ (by simp) rfl) rfl
                have eg : ev (.tmp 113) = .bool true := hA.val 13 _ 113 rfl (hp ⟨13, .guard⟩ (by simp) rfl) rfl
                refine ⟨_, 113, true, rfl, rfl, eg, ?_⟩
                rw [if_pos rfl]
                have hcc := hA.const
                clear hA hp
                obtain ⟨f0, f1, f2, f3, f4, f5⟩ := FC3.out w hI
                refine Reg.out_value (v := .slice (some ⟨gq, oq, none⟩) nq cqq) ?_ ⟨rfl, hrefl _, hI⟩
                go_simp
              · refine Reg.StepAt.guarded (i := 18) rfl ?_
                intro L ev w hI hk hp hA
                have e117 : ev (.tmp 117) = .slice (some ⟨gq, oq, none⟩) nq cqq := hA.val 17 _ 117 rfl (hp ⟨17, .data⟩ (by simp) rfl) rfl
                have eg : ev (.tmp 113) = .bool true := hA.val 13 _ 113 rfl (hp ⟨13, .guard⟩ (by simp) rfl) rfl
                refine ⟨_, 113, true, rfl, rfl, eg, ?_⟩
                rw [if_pos rfl]
                have hcc := hA.const
                clear hA hp
                refine Reg.out_value (v := .pointer (some ⟨gq, oq, none⟩)) ?_ ⟨rfl, hrefl _, hI⟩
                go_simp
              · refine Reg.StepAt.guarded (i := 19) rfl ?_
                intro L ev w hI hk hp hA
                have e118 : ev (.tmp 118) = .pointer (some ⟨gq, oq, none⟩) := hA.val 18 _ 118 rfl (hp ⟨18, .data⟩ (by simp) rfl) rfl
                have eg : ev (.tmp 113) = .bool true := hA.val 13 _ 113 rfl (hp ⟨13, .guard⟩ (by simp) rfl) rfl
                refine ⟨_, 113, true, rfl, rfl, eg, ?_⟩
                rw [if_pos rfl]
                have hcc := hA.const
                clear hA hp
                obtain ⟨f0, f1, f2, f3, f4, f5⟩ := FC3.out w hI
                refine Reg.out_value (v := .agg #[.int .u64 bq, .int .i64 bv]) ?_ ⟨rfl, hrefl _, hI⟩
                go_simp
              · refine Reg.StepAt.guarded (i := 20) rfl ?_
                intro L ev w hI hk hp hA
                have e8 : ev (.tmp 8) = .slice (some ⟨hb, 0, none⟩) sh sh := hA.oldNone 8 (by kernel_rfl)
                have eg : ev (.tmp 113) = .bool true := hA.val 13 _ 113 rfl (hp ⟨13, .guard⟩ (by simp) rfl) rfl
                refine ⟨_, 113, true, rfl, rfl, eg, ?_⟩
                rw [if_pos rfl]
                have hcc := hA.const
                clear hA hp
                refine Reg.out_value (v := .slice (some ⟨hb, 0, none⟩) sh sh) ?_ ⟨rfl, hrefl _, hI⟩
                go_simp
              · refine Reg.StepAt.guarded (i := 21) rfl ?_
                intro L ev w hI hk hp hA
                have e14 : ev (.tmp 14) = .int .i64 (p : Int) := hA.oldNone 14 (by kernel_rfl)
                have eg : ev (.tmp 113) = .bool true := hA.val 13 _ 113 rfl (hp ⟨13, .guard⟩ (by simp) rfl) rfl
                refine ⟨_, 113, true, rfl, rfl, eg, ?_⟩
                rw [if_pos rfl]
                have hcc := hA.const
                clear hA hp
                refine Reg.out_value (v := .int .i64 (p : Int)) ?_ ⟨rfl, hrefl _, hI⟩
                go_simp
              · refine Reg.StepAt.guarded (i := 22) rfl ?_
                intro L ev w hI hk hp hA
                have e120 : ev (.tmp 120) = .slice (some ⟨hb, 0, none⟩) sh sh := hA.val 20 _ 120 rfl (hp ⟨20, .data⟩ (by simp) rfl) rfl
                have e121 : ev (.tmp 121) = .int .i64 (p : Int) := hA.val 21 _ 121 rfl (hp ⟨21, .data⟩ (by simp) rfl) rfl
                have eg : ev (.tmp 113) = .bool true := hA.val 13 _ 113 rfl (hp ⟨13, .guard⟩ (by simp) rfl) rfl
                refine ⟨_, 113, true, rfl, rfl, eg, ?_⟩
                rw [if_pos rfl]
                have hcc := hA.const
                clear hA hp
                refine Reg.out_value (v := .pointer (some ⟨hb, p, none⟩)) ?_ ⟨rfl, hrefl _, hI⟩
                go_simp
              · refine Reg.StepAt.guarded (i := 23) rfl ?_
                intro L ev w hI hk hp hA
                have e122 : ev (.tmp 122) = .pointer (some ⟨hb, p, none⟩) := hA.val 22 _ 122 rfl (hp ⟨22, .data⟩ (by simp) rfl) rfl
                have eg : ev (.tmp 113) = .bool true := hA.val 13 _ 113 rfl (hp ⟨13, .guard⟩ (by simp) rfl) rfl
                refine ⟨_, 113, true, rfl, rfl, eg, ?_⟩
                rw [if_pos rfl]
                have hcc := hA.const
                clear hA hp
                obtain ⟨f0, f1, f2, f3, f4, f5⟩ := FC3.out w hI
                refine Reg.out_value (v := .slice (some ⟨gp, op, none⟩) np cpp) ?_ ⟨rfl, hrefl _, hI⟩
                go_simp
              · refine Reg.StepAt.guarded (i := 24) rfl ?_
                intro L ev w hI hk hp hA
                have e123 : ev (.tmp 123) = .slice (some ⟨gp, op, none⟩) np cpp := hA.val 23 _ 123 rfl (hp ⟨23, .data⟩ (by simp) rfl) rfl
                have eg : ev (.tmp 113) = .bool true := hA.val 13 _ 113 rfl (hp ⟨13, .guard⟩ (by simp) rfl) rfl
                refine ⟨_, 113, true, rfl, rfl, eg, ?_⟩
                rw [if_pos rfl]
                have hcc := hA.const
                clear hA hp
                refine Reg.out_value (v := .pointer (some ⟨gp, op, none⟩)) ?_ ⟨rfl, hrefl _, hI⟩
                go_simp
              · refine Reg.StepAt.guarded (i := 25) rfl ?_
                intro L ev w hI hk hp hA
                have e124 : ev (.tmp 124) = .pointer (some ⟨gp, op, none⟩) := hA.val 24 _ 124 rfl (hp ⟨24, .data⟩ (by simp) rfl) rfl
                have eg : ev (.tmp 113) = .bool true := hA.val 13 _ 113 rfl (hp ⟨13, .guard⟩ (by simp) rfl) rfl
                refine ⟨_, 113, true, rfl, rfl, eg, ?_⟩
                rw [if_pos rfl]
                have hcc := hA.const
                clear hA hp
                obtain ⟨f0, f1, f2, f3, f4, f5⟩ := FC3.out w hI
                refine Reg.out_value (v := .agg #[.int .u64 zq, .int .i64 zv]) ?_ ⟨rfl, hrefl _, hI⟩
                go_simp
              · refine Reg.StepAt.guarded (i := 26) rfl ?_
                intro L ev w hI hk hp hA
                have e119 : ev (.tmp 119) = .agg #[.int .u64 bq, .int .i64 bv] := hA.val 19 _ 119 rfl (hp ⟨19, .data⟩ (by simp) rfl) rfl
                have e125 : ev (.tmp 125) = .agg #[.int .u64 zq, .int .i64 zv] := hA.val 25 _ 125 rfl (hp ⟨25, .data⟩ (by simp) rfl) rfl
                have eg : ev (.tmp 113) = .bool true := hA.val 13 _ 113 rfl (hp ⟨13, .chain⟩ (by simp) rfl) rfl
                refine ⟨_, 113, true, rfl, rfl, eg, ?_⟩
                rw [if_pos rfl]
                have hcc := hA.const
                have hcf := hA.func
                clear hA hp
                refine Reg.out_call (f := 16) (args := #[.agg #[.int .u64 bq, .int .i64 bv], .agg #[.int .u64 zq, .int .i64 zv]]) (w0 := w) ?_ ?_
                · go_simp
                refine (hCm.out w).mono ?_
                rintro e w' ⟨rfl, hb'⟩
                exact ⟨_, rfl, rfl, hb', Reg.Keeps.trans hI hb'⟩
              · refine Reg.StepAt.guarded (i := 27) rfl ?_
                intro L ev w hI hk hp hA
                have e126 : ev (.tmp 126) = .int .i64 cc := hA.val 26 _ 126 rfl (hp ⟨26, .data⟩ (by simp) rfl) rfl
                have eg : ev (.tmp 113) = .bool true := hA.val 13 _ 113 rfl (hp ⟨13, .guard⟩ (by simp) rfl) rfl
                refine ⟨_, 113, true, rfl, rfl, eg, ?_⟩
                rw [if_pos rfl]
                have hcc := hA.const
                clear hA hp
                refine Reg.out_value (v := .bool false) ?_ ⟨rfl, hrefl _, hI⟩
                go_simp
              · refine Reg.StepAt.guarded (i := 28) rfl ?_
                intro L ev w hI hk hp hA
                have e113 : ev (.tmp 113) = .bool true := hA.val 13 _ 113 rfl (hp ⟨13, .data⟩ (by simp) rfl) rfl
                have e127 : ev (.tmp 127) = .bool false := hA.val 27 _ 127 rfl (hp ⟨27, .data⟩ (by simp) rfl) rfl
                have eg : ev (.tmp 106) = .bool false := hA.val 6 _ 106 rfl (hp ⟨6, .guard⟩ (by simp) rfl) rfl
                refine ⟨_, 106, false, rfl, rfl, eg, ?_⟩
                rw [if_pos rfl]
                have hcc := hA.const
                clear hA hp
                refine Reg.out_value (v := .bool false) ?_ ⟨rfl, hrefl _, hI⟩
                go_simp
              · refine Reg.StepAt.plain (i := 29) rfl ?_
                intro L ev w hI hk hp hA
                have e106 : ev (.tmp 106) = .bool false := hA.val 6 _ 106 rfl (hp ⟨6, .data⟩ (by simp) rfl) rfl
                have e128 : ev (.tmp 128) = .bool false := hA.val 28 _ 128 rfl (hp ⟨28, .data⟩ (by simp) rfl) rfl
                have hcc := hA.const
                clear hA hp
                refine Reg.out_value (v := .bool false) ?_ ⟨rfl, hrefl _, hI⟩
                go_simp
              intro L act wz hall hI hF
              have g100 : act.eval (.tmp 100) = .slice (some ⟨hb, 0, none⟩) sh sh := hF.val 0 _ 100 rfl (hall 0 (by simp)) rfl
              have g101 : act.eval (.tmp 101) = .int .i64 (p : Int) := hF.val 1 _ 101 rfl (hall 1 (by simp)) rfl
              have g102 : act.eval (.tmp 102) = .pointer (some ⟨hb, p, none⟩) := hF.val 2 _ 102 rfl (hall 2 (by simp)) rfl
              have g103 : act.eval (.tmp 103) = .slice (some ⟨gp, op, none⟩) np cpp := hF.val 3 _ 103 rfl (hall 3 (by simp)) rfl
              have g104 : act.eval (.tmp 104) = .int .i64 (np : Int) := hF.val 4 _ 104 rfl (hall 4 (by simp)) rfl
              have g105 : act.eval (.tmp 105) = .bool false := hF.val 5 _ 105 rfl (hall 5 (by simp)) rfl
              have g106 : act.eval (.tmp 106) = .bool false := hF.val 6 _ 106 rfl (hall 6 (by simp)) rfl
              have g107 : act.eval (.tmp 107) = .slice (some ⟨hb, 0, none⟩) sh sh := hF.val 7 _ 107 rfl (hall 7 (by simp)) rfl
              have g108 : act.eval (.tmp 108) = .int .i64 (q : Int) := hF.val 8 _ 108 rfl (hall 8 (by simp)) rfl
              have g109 : act.eval (.tmp 109) = .pointer (some ⟨hb, q, none⟩) := hF.val 9 _ 109 rfl (hall 9 (by simp)) rfl
              have g110 : act.eval (.tmp 110) = .slice (some ⟨gq, oq, none⟩) nq cqq := hF.val 10 _ 110 rfl (hall 10 (by simp)) rfl
              have g111 : act.eval (.tmp 111) = .int .i64 (nq : Int) := hF.val 11 _ 111 rfl (hall 11 (by simp)) rfl
              have g112 : act.eval (.tmp 112) = .bool true := hF.val 12 _ 112 rfl (hall 12 (by simp)) rfl
              have g113 : act.eval (.tmp 113) = .bool true := hF.val 13 _ 113 rfl (hall 13 (by simp)) rfl
              have g114 : act.eval (.tmp 114) = .slice (some ⟨hb, 0, none⟩) sh sh := hF.val 14 _ 114 rfl (hall 14 (by simp)) rfl
              have g115 : act.eval (.tmp 115) = .int .i64 (q : Int) := hF.val 15 _ 115 rfl (hall 15 (by simp)) rfl
              have g116 : act.eval (.tmp 116) = .pointer (some ⟨hb, q, none⟩) := hF.val 16 _ 116 rfl (hall 16 (by simp)) rfl
              have g117 : act.eval (.tmp 117) = .slice (some ⟨gq, oq, none⟩) nq cqq := hF.val 17 _ 117 rfl (hall 17 (by simp)) rfl
              have g118 : act.eval (.tmp 118) = .pointer (some ⟨gq, oq, none⟩) := hF.val 18 _ 118 rfl (hall 18 (by simp)) rfl
              have g119 : act.eval (.tmp 119) = .agg #[.int .u64 bq, .int .i64 bv] := hF.val 19 _ 119 rfl (hall 19 (by simp)) rfl
              have g120 : act.eval (.tmp 120) = .slice (some ⟨hb, 0, none⟩) sh sh := hF.val 20 _ 120 rfl (hall 20 (by simp)) rfl
              have g121 : act.eval (.tmp 121) = .int .i64 (p : Int) := hF.val 21 _ 121 rfl (hall 21 (by simp)) rfl
              have g122 : act.eval (.tmp 122) = .pointer (some ⟨hb, p, none⟩) := hF.val 22 _ 122 rfl (hall 22 (by simp)) rfl
              have g123 : act.eval (.tmp 123) = .slice (some ⟨gp, op, none⟩) np cpp := hF.val 23 _ 123 rfl (hall 23 (by simp)) rfl
              have g124 : act.eval (.tmp 124) = .pointer (some ⟨gp, op, none⟩) := hF.val 24 _ 124 rfl (hall 24 (by simp)) rfl
              have g125 : act.eval (.tmp 125) = .agg #[.int .u64 zq, .int .i64 zv] := hF.val 25 _ 125 rfl (hall 25 (by simp)) rfl
              have g126 : act.eval (.tmp 126) = .int .i64 cc := hF.val 26 _ 126 rfl (hall 26 (by simp)) rfl
              have g127 : act.eval (.tmp 127) = .bool false := hF.val 27 _ 127 rfl (hall 27 (by simp)) rfl
              have g128 : act.eval (.tmp 128) = .bool false := hF.val 28 _ 128 rfl (hall 28 (by simp)) rfl
              have g129 : act.eval (.tmp 129) = .bool false := hF.val 29 _ 129 rfl (hall 29 (by simp)) rfl
              have hact := hF.act [100, 101, 102, 103, 104, 105, 106, 107, 108, 109, 110, 111, 112, 113, 114, 115, 116, 117, 118, 119, 120, 121, 122, 123, 124, 125, 126, 127, 128, 129] (by kernel_rfl)
              clear hF hall
              simp only [List.foldl_cons, List.foldl_nil] at hact
              rw [g100, g101, g102, g103, g104, g105, g106, g107, g108, g109, g110, g111, g112, g113, g114, g115, g116, g117, g118, g119, g120, g121, g122, g123, g124, g125, g126, g127, g128, g129] at hact
              clear g100 g101 g102 g103 g104 g105 g106 g107 g108 g109 g110 g111 g112 g113 g114 g115 g116 g117 g118 g119 g120 g121 g122 g123 g124 g125 g126 g127 g128 g129
              simp only [List.setIfInBounds_toArray, List.set_cons_succ, List.set_cons_zero] at hact
              subst hact
              obtain ⟨hLp, hre⟩ := HLP.out
              subst hre
              obtain ⟨W12, hw12⟩ : ∃ W12, W12 = wz := ⟨_, rfl⟩
              subst hw12
              have hI12 : Below W10.heap.size W10 W12 := hI
              clear hI
              obtain ⟨hr, hL1, hcase, hrl, _⟩ := HR.out
              rcases hcase with ⟨hLr, _, _, _⟩ | ⟨z, K, hz, hA⟩
              · rw [hLp] at hLr; cases hLr
        all_goals
          subst hA
          have hrl' := hrl
          obtain ⟨r1, r2, r3, r4⟩ := HH.out.row r hrl
          rw [hz] at r1 r2 r3
          obtain ⟨gr, or_, har, hgl, e0, e1, htl⟩ := r2.head
          obtain ⟨nr, hnr⟩ : ∃ nr, K.length + 1 = nr := ⟨_, rfl⟩
          have hnr0 : 0 < nr := by omega
          have hnrI : (0 : Int) < (nr : Int) := by omega
          have hnr1 : (1 : Int) ≤ (nr : Int) := by omega
          have hnr2 : 1 ≤ nr := by omega
          obtain ⟨cr, hcr⟩ : ∃ cr, c r = cr := ⟨_, rfl⟩
          have hcr1 : nr ≤ cr := by rw [← hnr, ← hcr]; exact r3
          obtain ⟨zq, hzq⟩ : ∃ zq, ni z.b = zq := ⟨_, rfl⟩
          rw [hzq] at e0
          have hrI : (r : Int) < (sh : Int) := by omega
          have hcell : ∀ W, Below W10.heap.size W10 W → W.cell? ⟨hb, r, none⟩ = some (.slice (some ⟨gr, or_, none⟩) nr cr) := fun W hW => by
            have q1 := ((HH.out.below hW).cell hrl).1
            rw [hz, har, hcr, show (z :: K).length = nr from hnr] at q1
            exact q1
          have FC4 := hidq (fun W (hW : Below W12.heap.size W12 W) => (show W.cell? ⟨ab, 0, none⟩ = some (.bool true) ∧ W.cell? ⟨ab, 1, none⟩ = some (.float .f64 z.b) ∧ W.cell? ⟨ab, 2, none⟩ = some (.int .i64 z.v) ∧ W.cell? ⟨hb, r, none⟩ = some (.slice (some ⟨gr, or_, none⟩) nr cr) ∧ W.cell? ⟨gr, or_, none⟩ = some (.int .u64 zq) ∧ W.cell? ⟨gr, or_ + 1, none⟩ = some (.int .i64 z.v) from by
            have hT := hI12.trans (hW.mono hI12.size)
            have q := HAB.out.below hT
            exact ⟨(q.get 0 _ rfl).1, (q.get 1 _ rfl).1, (q.get 2 _ rfl).1, hcell W hT, (hT.cell (p := ⟨gr, or_, none⟩) hgl).trans e0, (hT.cell (p := ⟨gr, or_ + 1, none⟩) hgl).trans e1⟩))
          have hIs := hidq (fun W => (show Calls Try.prog 14 #[.agg #[.float .f64 z.b, .int .i64 z.v], .agg #[.int .u64 zq, .int .i64 z.v]] W fun e w' => e = .returned (.int .i64 0) ∧ Below W.heap.size W w' from by
            have := is_any z.b z.v zq z.v W
            rw [← hzq, isV_same z] at this
            rw [← hzq]
            exact this))
          obtain ⟨o9, ho9⟩ : ∃ o9, o9 = if cr = 1 then or_ else or_ + 2 := ⟨_, rfl⟩
          have HO9 := hidq ho9
          have HT9 := hidq (show RdR W10 (some ⟨gr, o9, none⟩) K from htl o9 (by
            by_cases e : cr = 1
            · left; exact List.length_eq_zero_iff.1 (by omega)
            · right; rw [ho9, if_neg e]))
          have HR4 := hidq (show ∀ j, inB (some ⟨gr, o9, none⟩) j → w.heap.size ≤ j ∧ j < W10.heap.size ∧ j ≠ hb ∧ ¬ O8 j from fun j hj => r4 j (by
            obtain ⟨y, hy, hj2⟩ := hj
            cases hy
            exact ⟨_, har, hj2⟩))
          have HCL := hidq (And.intro hcell (And.intro hI12 (And.intro hrl (And.intro hnr (And.intro hcr1 (And.intro (show L' = upd Ls r K by rw [hL1, hz]; rfl) hcr))))))
          clear hr hL1 hz har e0 e1 htl r1 r2 r3 r4 hcell hI12 hnr hcr hzq hgl hrl hLp ho9 hcr1
          go_wp2_with fail
          have hrefl : ∀ w : World, Reg.Keeps w w := Reg.Keeps.refl
          refine Reg.wp_region_props (Reg.ofList (mal21Ritem ab hb sh r nr cr gr or_ z.b zq z.v)) Reg.Keeps (fun _ w => Reg.Keeps W12 w) (by kernel_rfl) (by kernel_rfl) (Reg.AllKept.at _ (mal21Ritem_kept ab hb sh r nr cr gr or_ z.b zq z.v)) hrefl (Reg.Keeps.drewN (Reg.Keeps.refl _) 1) ⟨?_, ?_, ?_, ?_, ?_, ?_, ?_, ?_, ?_, ?_, ?_, ?_, ?_, ?_, ?_, ?_, ?_, ?_, ?_, ?_, ?_, ?_, ?_, ?_, ?_, ?_, ?_, ?_, ?_, trivial⟩ ?_
          · refine Reg.StepAt.plain (i := 0) rfl ?_
            intro L ev w hI hk hp hA
            have e13 : ev (.tmp 13) = .bool true := hA.oldNone 13 (by kernel_rfl)
            have hcc := hA.const
            clear hA hp
            refine Reg.out_value (v := .bool true) ?_ ⟨rfl, hrefl _, hI⟩
            go_simp
          · refine Reg.StepAt.plain (i := 1) rfl ?_
            intro L ev w hI hk hp hA
            have e131 : ev (.tmp 131) = .bool true := hA.val 0 _ 131 rfl (hp ⟨0, .data⟩ (by simp) rfl) rfl
            have hcc := hA.const
            clear hA hp
            refine Reg.out_value (v := .bool false) ?_ ⟨rfl, hrefl _, hI⟩
            go_simp
          · refine Reg.StepAt.plain (i := 2) rfl ?_
            intro L ev w hI hk hp hA
            have e132 : ev (.tmp 132) = .bool false := hA.val 1 _ 132 rfl (hp ⟨1, .data⟩ (by simp) rfl) rfl
            have hcc := hA.const
            clear hA hp
            refine Reg.out_value (v := .bool false) ?_ ⟨rfl, hrefl _, hI⟩
            go_simp
          · refine Reg.StepAt.guarded (i := 3) rfl ?_
            intro L ev w hI hk hp hA
            have e12 : ev (.tmp 12) = .pointer (some ⟨ab, 0, none⟩) := hA.oldNone 12 (by kernel_rfl)
            have eg : ev (.tmp 133) = .bool false := hA.val 2 _ 133 rfl (hp ⟨2, .guard⟩ (by simp) rfl) rfl
            refine ⟨_, 133, false, rfl, rfl, eg, ?_⟩
            rw [if_pos rfl]
            have hcc := hA.const
            clear hA hp
            refine Reg.out_value (v := .pointer (some ⟨ab, 0, none⟩)) ?_ ⟨rfl, hrefl _, hI⟩
            go_simp
          · refine Reg.StepAt.guarded (i := 4) rfl ?_
            intro L ev w hI hk hp hA
            have e134 : ev (.tmp 134) = .pointer (some ⟨ab, 0, none⟩) := hA.val 3 _ 134 rfl (hp ⟨3, .data⟩ (by simp) rfl) rfl
            have eg : ev (.tmp 133) = .bool false := hA.val 2 _ 133 rfl (hp ⟨2, .guard⟩ (by simp) rfl) rfl
            refine ⟨_, 133, false, rfl, rfl, eg, ?_⟩
            rw [if_pos rfl]
            have hcc := hA.const
            clear hA hp
            obtain ⟨f0, f1, f2, f3, f4, f5⟩ := FC4.out w hI
            refine Reg.out_value (v := .bool true) ?_ ⟨rfl, hrefl _, hI⟩
            go_simp
          · refine Reg.StepAt.guarded (i := 5) rfl ?_
            intro L ev w hI hk hp hA
            have e8 : ev (.tmp 8) = .slice (some ⟨hb, 0, none⟩) sh sh := hA.oldNone 8 (by kernel_rfl)
            have eg : ev (.tmp 133) = .bool false := hA.val 2 _ 133 rfl (hp ⟨2, .guard⟩ (by simp) rfl) rfl
            refine ⟨_, 133, false, rfl, rfl, eg, ?_⟩
            rw [if_pos rfl]
            have hcc := hA.const
            clear hA hp
            refine Reg.out_value (v := .slice (some ⟨hb, 0, none⟩) sh sh) ?_ ⟨rfl, hrefl _, hI⟩
            go_simp
          · refine Reg.StepAt.guarded (i := 6) rfl ?_
            intro L ev w hI hk hp hA
            have e14 : ev (.tmp 14) = .int .i64 (r : Int) := hA.oldNone 14 (by kernel_rfl)
            have eg : ev (.tmp 133) = .bool false := hA.val 2 _ 133 rfl (hp ⟨2, .guard⟩ (by simp) rfl) rfl
            refine ⟨_, 133, false, rfl, rfl, eg, ?_⟩
            rw [if_pos rfl]
            have hcc := hA.const
            clear hA hp
            refine Reg.out_value (v := .int .i64 (r : Int)) ?_ ⟨rfl, hrefl _, hI⟩
            go_simp
          · refine Reg.StepAt.guarded (i := 7) rfl ?_
            intro L ev w hI hk hp hA
            have e136 : ev (.tmp 136) = .slice (some ⟨hb, 0, none⟩) sh sh := hA.val 5 _ 136 rfl (hp ⟨5, .data⟩ (by simp) rfl) rfl
            have e137 : ev (.tmp 137) = .int .i64 (r : Int) := hA.val 6 _ 137 rfl (hp ⟨6, .data⟩ (by simp) rfl) rfl
            have eg : ev (.tmp 133) = .bool false := hA.val 2 _ 133 rfl (hp ⟨2, .guard⟩ (by simp) rfl) rfl
            refine ⟨_, 133, false, rfl, rfl, eg, ?_⟩
            rw [if_pos rfl]
            have hcc := hA.const
            clear hA hp
            refine Reg.out_value (v := .pointer (some ⟨hb, r, none⟩)) ?_ ⟨rfl, hrefl _, hI⟩
            go_simp
          · refine Reg.StepAt.guarded (i := 8) rfl ?_
            intro L ev w hI hk hp hA
            have e138 : ev (.tmp 138) = .pointer (some ⟨hb, r, none⟩) := hA.val 7 _ 138 rfl (hp ⟨7, .data⟩ (by simp) rfl) rfl
            have eg : ev (.tmp 133) = .bool false := hA.val 2 _ 133 rfl (hp ⟨2, .guard⟩ (by simp) rfl) rfl
            refine ⟨_, 133, false, rfl, rfl, eg, ?_⟩
            rw [if_pos rfl]
            have hcc := hA.const
            clear hA hp
            obtain ⟨f0, f1, f2, f3, f4, f5⟩ := FC4.out w hI
            refine Reg.out_value (v := .slice (some ⟨gr, or_, none⟩) nr cr) ?_ ⟨rfl, hrefl _, hI⟩
            go_simp
          · refine Reg.StepAt.guarded (i := 9) rfl ?_
            intro L ev w hI hk hp hA
            have e139 : ev (.tmp 139) = .slice (some ⟨gr, or_, none⟩) nr cr := hA.val 8 _ 139 rfl (hp ⟨8, .data⟩ (by simp) rfl) rfl
            have eg : ev (.tmp 133) = .bool false := hA.val 2 _ 133 rfl (hp ⟨2, .guard⟩ (by simp) rfl) rfl
            refine ⟨_, 133, false, rfl, rfl, eg, ?_⟩
            rw [if_pos rfl]
            have hcc := hA.const
            clear hA hp
            refine Reg.out_value (v := .int .i64 (nr : Int)) ?_ ⟨rfl, hrefl _, hI⟩
            go_simp
          · refine Reg.StepAt.guarded (i := 10) rfl ?_
            intro L ev w hI hk hp hA
            have e140 : ev (.tmp 140) = .int .i64 (nr : Int) := hA.val 9 _ 140 rfl (hp ⟨9, .data⟩ (by simp) rfl) rfl
            have eg : ev (.tmp 133) = .bool false := hA.val 2 _ 133 rfl (hp ⟨2, .guard⟩ (by simp) rfl) rfl
            refine ⟨_, 133, false, rfl, rfl, eg, ?_⟩
            rw [if_pos rfl]
            have hcc := hA.const
            clear hA hp
            refine Reg.out_value (v := .bool true) ?_ ⟨rfl, hrefl _, hI⟩
            go_simp
          · refine Reg.StepAt.guarded (i := 11) rfl ?_
            intro L ev w hI hk hp hA
            have e135 : ev (.tmp 135) = .bool true := hA.val 4 _ 135 rfl (hp ⟨4, .data⟩ (by simp) rfl) rfl
            have e141 : ev (.tmp 141) = .bool true := hA.val 10 _ 141 rfl (hp ⟨10, .data⟩ (by simp) rfl) rfl
            have eg : ev (.tmp 133) = .bool false := hA.val 2 _ 133 rfl (hp ⟨2, .guard⟩ (by simp) rfl) rfl
            refine ⟨_, 133, false, rfl, rfl, eg, ?_⟩
            rw [if_pos rfl]
            have hcc := hA.const
            clear hA hp
            refine Reg.out_value (v := .bool false) ?_ ⟨rfl, hrefl _, hI⟩
            go_simp
          · refine Reg.StepAt.plain (i := 12) rfl ?_
            intro L ev w hI hk hp hA
            have e133 : ev (.tmp 133) = .bool false := hA.val 2 _ 133 rfl (hp ⟨2, .data⟩ (by simp) rfl) rfl
            have e142 : ev (.tmp 142) = .bool false := hA.val 11 _ 142 rfl (hp ⟨11, .data⟩ (by simp) rfl) rfl
            have hcc := hA.const
            clear hA hp
            refine Reg.out_value (v := .bool false) ?_ ⟨rfl, hrefl _, hI⟩
            go_simp
          · refine Reg.StepAt.plain (i := 13) rfl ?_
            intro L ev w hI hk hp hA
            have e143 : ev (.tmp 143) = .bool false := hA.val 12 _ 143 rfl (hp ⟨12, .data⟩ (by simp) rfl) rfl
            have hcc := hA.const
            clear hA hp
            refine Reg.out_value (v := .bool false) ?_ ⟨rfl, hrefl _, hI⟩
            go_simp
          · refine Reg.StepAt.guarded (i := 14) rfl ?_
            intro L ev w hI hk hp hA
            have e12 : ev (.tmp 12) = .pointer (some ⟨ab, 0, none⟩) := hA.oldNone 12 (by kernel_rfl)
            have eg : ev (.tmp 144) = .bool false := hA.val 13 _ 144 rfl (hp ⟨13, .guard⟩ (by simp) rfl) rfl
            refine ⟨_, 144, false, rfl, rfl, eg, ?_⟩
            rw [if_pos rfl]
            have hcc := hA.const
            clear hA hp
            refine Reg.out_value (v := .pointer (some ⟨ab, 0, none⟩)) ?_ ⟨rfl, hrefl _, hI⟩
            go_simp
          · refine Reg.StepAt.guarded (i := 15) rfl ?_
            intro L ev w hI hk hp hA
            have e145 : ev (.tmp 145) = .pointer (some ⟨ab, 0, none⟩) := hA.val 14 _ 145 rfl (hp ⟨14, .data⟩ (by simp) rfl) rfl
            have eg : ev (.tmp 144) = .bool false := hA.val 13 _ 144 rfl (hp ⟨13, .guard⟩ (by simp) rfl) rfl
            refine ⟨_, 144, false, rfl, rfl, eg, ?_⟩
            rw [if_pos rfl]
            have hcc := hA.const
            clear hA hp
            obtain ⟨f0, f1, f2, f3, f4, f5⟩ := FC4.out w hI
            refine Reg.out_value (v := .bool true) ?_ ⟨rfl, hrefl _, hI⟩
            go_simp
          · refine Reg.StepAt.guarded (i := 16) rfl ?_
            intro L ev w hI hk hp hA
            have e146 : ev (.tmp 146) = .bool true := hA.val 15 _ 146 rfl (hp ⟨15, .data⟩ (by simp) rfl) rfl
            have eg : ev (.tmp 144) = .bool false := hA.val 13 _ 144 rfl (hp ⟨13, .chain⟩ (by simp) rfl) rfl
            refine ⟨_, 144, false, rfl, rfl, eg, ?_⟩
            rw [if_pos rfl]
            have hcc := hA.const
            clear hA hp
            refine Reg.out_value (v := .bool true) ?_ ⟨rfl, hrefl _, hI⟩
            go_simp
          · refine Reg.StepAt.guarded (i := 17) rfl ?_
            intro L ev w hI hk hp hA
            have e12 : ev (.tmp 12) = .pointer (some ⟨ab, 0, none⟩) := hA.oldNone 12 (by kernel_rfl)
            have eg : ev (.tmp 147) = .bool true := hA.val 16 _ 147 rfl (hp ⟨16, .guard⟩ (by simp) rfl) rfl
            refine ⟨_, 147, true, rfl, rfl, eg, ?_⟩
            rw [if_pos rfl]
            have hcc := hA.const
            clear hA hp
            refine Reg.out_value (v := .pointer (some ⟨ab, 1, none⟩)) ?_ ⟨rfl, hrefl _, hI⟩
            go_simp
          · refine Reg.StepAt.guarded (i := 18) rfl ?_
            intro L ev w hI hk hp hA
            have e148 : ev (.tmp 148) = .pointer (some ⟨ab, 1, none⟩) := hA.val 17 _ 148 rfl (hp ⟨17, .data⟩ (by simp) rfl) rfl
            have eg : ev (.tmp 147) = .bool true := hA.val 16 _ 147 rfl (hp ⟨16, .guard⟩ (by simp) rfl) rfl
            refine ⟨_, 147, true, rfl, rfl, eg, ?_⟩
            rw [if_pos rfl]
            have hcc := hA.const
            clear hA hp
            obtain ⟨f0, f1, f2, f3, f4, f5⟩ := FC4.out w hI
            refine Reg.out_value (v := .agg #[.float .f64 z.b, .int .i64 z.v]) ?_ ⟨rfl, hrefl _, hI⟩
            go_simp
          · refine Reg.StepAt.guarded (i := 19) rfl ?_
            intro L ev w hI hk hp hA
            have e8 : ev (.tmp 8) = .slice (some ⟨hb, 0, none⟩) sh sh := hA.oldNone 8 (by kernel_rfl)
            have eg : ev (.tmp 147) = .bool true := hA.val 16 _ 147 rfl (hp ⟨16, .guard⟩ (by simp) rfl) rfl
            refine ⟨_, 147, true, rfl, rfl, eg, ?_⟩
            rw [if_pos rfl]
            have hcc := hA.const
            clear hA hp
            refine Reg.out_value (v := .slice (some ⟨hb, 0, none⟩) sh sh) ?_ ⟨rfl, hrefl _, hI⟩
            go_simp
          · refine Reg.StepAt.guarded (i := 20) rfl ?_
            intro L ev w hI hk hp hA
            have e14 : ev (.tmp 14) = .int .i64 (r : Int) := hA.oldNone 14 (by kernel_rfl)
            have eg : ev (.tmp 147) = .bool true := hA.val 16 _ 147 rfl (hp ⟨16, .guard⟩ (by simp) rfl) rfl
            refine ⟨_, 147, true, rfl, rfl, eg, ?_⟩
            rw [if_pos rfl]
            have hcc := hA.const
            clear hA hp
            refine Reg.out_value (v := .int .i64 (r : Int)) ?_ ⟨rfl, hrefl _, hI⟩
            go_simp
          · refine Reg.StepAt.guarded (i := 21) rfl ?_
            intro L ev w hI hk hp hA
            have e150 : ev (.tmp 150) = .slice (some ⟨hb, 0, none⟩) sh sh := hA.val 19 _ 150 rfl (hp ⟨19, .data⟩ (by simp) rfl) rfl
            have e151 : ev (.tmp 151) = .int .i64 (r : Int) := hA.val 20 _ 151 rfl (hp ⟨20, .data⟩ (by simp) rfl) rfl
            have eg : ev (.tmp 147) = .bool true := hA.val 16 _ 147 rfl (hp ⟨16, .guard⟩ (by simp) rfl) rfl
            refine ⟨_, 147, true, rfl, rfl, eg, ?_⟩
            rw [if_pos rfl]
            have hcc := hA.const
            clear hA hp
            refine Reg.out_value (v := .pointer (some ⟨hb, r, none⟩)) ?_ ⟨rfl, hrefl _, hI⟩
            go_simp
          · refine Reg.StepAt.guarded (i := 22) rfl ?_
            intro L ev w hI hk hp hA
            have e152 : ev (.tmp 152) = .pointer (some ⟨hb, r, none⟩) := hA.val 21 _ 152 rfl (hp ⟨21, .data⟩ (by simp) rfl) rfl
            have eg : ev (.tmp 147) = .bool true := hA.val 16 _ 147 rfl (hp ⟨16, .guard⟩ (by simp) rfl) rfl
            refine ⟨_, 147, true, rfl, rfl, eg, ?_⟩
            rw [if_pos rfl]
            have hcc := hA.const
            clear hA hp
            obtain ⟨f0, f1, f2, f3, f4, f5⟩ := FC4.out w hI
            refine Reg.out_value (v := .slice (some ⟨gr, or_, none⟩) nr cr) ?_ ⟨rfl, hrefl _, hI⟩
            go_simp
          · refine Reg.StepAt.guarded (i := 23) rfl ?_
            intro L ev w hI hk hp hA
            have e153 : ev (.tmp 153) = .slice (some ⟨gr, or_, none⟩) nr cr := hA.val 22 _ 153 rfl (hp ⟨22, .data⟩ (by simp) rfl) rfl
            have eg : ev (.tmp 147) = .bool true := hA.val 16 _ 147 rfl (hp ⟨16, .guard⟩ (by simp) rfl) rfl
            refine ⟨_, 147, true, rfl, rfl, eg, ?_⟩
            rw [if_pos rfl]
            have hcc := hA.const
            clear hA hp
            refine Reg.out_value (v := .pointer (some ⟨gr, or_, none⟩)) ?_ ⟨rfl, hrefl _, hI⟩
            go_simp
          · refine Reg.StepAt.guarded (i := 24) rfl ?_
            intro L ev w hI hk hp hA
            have e154 : ev (.tmp 154) = .pointer (some ⟨gr, or_, none⟩) := hA.val 23 _ 154 rfl (hp ⟨23, .data⟩ (by simp) rfl) rfl
            have eg : ev (.tmp 147) = .bool true := hA.val 16 _ 147 rfl (hp ⟨16, .guard⟩ (by simp) rfl) rfl
            refine ⟨_, 147, true, rfl, rfl, eg, ?_⟩
            rw [if_pos rfl]
            have hcc := hA.const
            clear hA hp
            obtain ⟨f0, f1, f2, f3, f4, f5⟩ := FC4.out w hI
            refine Reg.out_value (v := .agg #[.int .u64 zq, .int .i64 z.v]) ?_ ⟨rfl, hrefl _, hI⟩
            go_simp
          · refine Reg.StepAt.guarded (i := 25) rfl ?_
            intro L ev w hI hk hp hA
            have e149 : ev (.tmp 149) = .agg #[.float .f64 z.b, .int .i64 z.v] := hA.val 18 _ 149 rfl (hp ⟨18, .data⟩ (by simp) rfl) rfl
            have e155 : ev (.tmp 155) = .agg #[.int .u64 zq, .int .i64 z.v] := hA.val 24 _ 155 rfl (hp ⟨24, .data⟩ (by simp) rfl) rfl
            have eg : ev (.tmp 147) = .bool true := hA.val 16 _ 147 rfl (hp ⟨16, .chain⟩ (by simp) rfl) rfl
            refine ⟨_, 147, true, rfl, rfl, eg, ?_⟩
            rw [if_pos rfl]
            have hcc := hA.const
            have hcf := hA.func
            clear hA hp
            refine Reg.out_call (f := 14) (args := #[.agg #[.float .f64 z.b, .int .i64 z.v], .agg #[.int .u64 zq, .int .i64 z.v]]) (w0 := w) ?_ ?_
            · go_simp
            refine (hIs.out w).mono ?_
            rintro e w' ⟨rfl, hb'⟩
            exact ⟨_, rfl, rfl, hb', Reg.Keeps.trans hI hb'⟩
          · refine Reg.StepAt.guarded (i := 26) rfl ?_
            intro L ev w hI hk hp hA
            have e156 : ev (.tmp 156) = .int .i64 0 := hA.val 25 _ 156 rfl (hp ⟨25, .data⟩ (by simp) rfl) rfl
            have eg : ev (.tmp 147) = .bool true := hA.val 16 _ 147 rfl (hp ⟨16, .guard⟩ (by simp) rfl) rfl
            refine ⟨_, 147, true, rfl, rfl, eg, ?_⟩
            rw [if_pos rfl]
            have hcc := hA.const
            clear hA hp
            refine Reg.out_value (v := .bool false) ?_ ⟨rfl, hrefl _, hI⟩
            go_simp
          · refine Reg.StepAt.guarded (i := 27) rfl ?_
            intro L ev w hI hk hp hA
            have e147 : ev (.tmp 147) = .bool true := hA.val 16 _ 147 rfl (hp ⟨16, .data⟩ (by simp) rfl) rfl
            have e157 : ev (.tmp 157) = .bool false := hA.val 26 _ 157 rfl (hp ⟨26, .data⟩ (by simp) rfl) rfl
            have eg : ev (.tmp 144) = .bool false := hA.val 13 _ 144 rfl (hp ⟨13, .guard⟩ (by simp) rfl) rfl
            refine ⟨_, 144, false, rfl, rfl, eg, ?_⟩
            rw [if_pos rfl]
            have hcc := hA.const
            clear hA hp
            refine Reg.out_value (v := .bool false) ?_ ⟨rfl, hrefl _, hI⟩
            go_simp
          · refine Reg.StepAt.plain (i := 28) rfl ?_
            intro L ev w hI hk hp hA
            have e144 : ev (.tmp 144) = .bool false := hA.val 13 _ 144 rfl (hp ⟨13, .data⟩ (by simp) rfl) rfl
            have e158 : ev (.tmp 158) = .bool false := hA.val 27 _ 158 rfl (hp ⟨27, .data⟩ (by simp) rfl) rfl
            have hcc := hA.const
            clear hA hp
            refine Reg.out_value (v := .bool false) ?_ ⟨rfl, hrefl _, hI⟩
            go_simp
          intro L act wz hall hI hF
          have g131 : act.eval (.tmp 131) = .bool true := hF.val 0 _ 131 rfl (hall 0 (by simp)) rfl
          have g132 : act.eval (.tmp 132) = .bool false := hF.val 1 _ 132 rfl (hall 1 (by simp)) rfl
          have g133 : act.eval (.tmp 133) = .bool false := hF.val 2 _ 133 rfl (hall 2 (by simp)) rfl
          have g134 : act.eval (.tmp 134) = .pointer (some ⟨ab, 0, none⟩) := hF.val 3 _ 134 rfl (hall 3 (by simp)) rfl
          have g135 : act.eval (.tmp 135) = .bool true := hF.val 4 _ 135 rfl (hall 4 (by simp)) rfl
          have g136 : act.eval (.tmp 136) = .slice (some ⟨hb, 0, none⟩) sh sh := hF.val 5 _ 136 rfl (hall 5 (by simp)) rfl
          have g137 : act.eval (.tmp 137) = .int .i64 (r : Int) := hF.val 6 _ 137 rfl (hall 6 (by simp)) rfl
          have g138 : act.eval (.tmp 138) = .pointer (some ⟨hb, r, none⟩) := hF.val 7 _ 138 rfl (hall 7 (by simp)) rfl
          have g139 : act.eval (.tmp 139) = .slice (some ⟨gr, or_, none⟩) nr cr := hF.val 8 _ 139 rfl (hall 8 (by simp)) rfl
          have g140 : act.eval (.tmp 140) = .int .i64 (nr : Int) := hF.val 9 _ 140 rfl (hall 9 (by simp)) rfl
          have g141 : act.eval (.tmp 141) = .bool true := hF.val 10 _ 141 rfl (hall 10 (by simp)) rfl
          have g142 : act.eval (.tmp 142) = .bool false := hF.val 11 _ 142 rfl (hall 11 (by simp)) rfl
          have g143 : act.eval (.tmp 143) = .bool false := hF.val 12 _ 143 rfl (hall 12 (by simp)) rfl
          have g144 : act.eval (.tmp 144) = .bool false := hF.val 13 _ 144 rfl (hall 13 (by simp)) rfl
          have g145 : act.eval (.tmp 145) = .pointer (some ⟨ab, 0, none⟩) := hF.val 14 _ 145 rfl (hall 14 (by simp)) rfl
          have g146 : act.eval (.tmp 146) = .bool true := hF.val 15 _ 146 rfl (hall 15 (by simp)) rfl
          have g147 : act.eval (.tmp 147) = .bool true := hF.val 16 _ 147 rfl (hall 16 (by simp)) rfl
          have g148 : act.eval (.tmp 148) = .pointer (some ⟨ab, 1, none⟩) := hF.val 17 _ 148 rfl (hall 17 (by simp)) rfl
          have g149 : act.eval (.tmp 149) = .agg #[.float .f64 z.b, .int .i64 z.v] := hF.val 18 _ 149 rfl (hall 18 (by simp)) rfl
          have g150 : act.eval (.tmp 150) = .slice (some ⟨hb, 0, none⟩) sh sh := hF.val 19 _ 150 rfl (hall 19 (by simp)) rfl
          have g151 : act.eval (.tmp 151) = .int .i64 (r : Int) := hF.val 20 _ 151 rfl (hall 20 (by simp)) rfl
          have g152 : act.eval (.tmp 152) = .pointer (some ⟨hb, r, none⟩) := hF.val 21 _ 152 rfl (hall 21 (by simp)) rfl
          have g153 : act.eval (.tmp 153) = .slice (some ⟨gr, or_, none⟩) nr cr := hF.val 22 _ 153 rfl (hall 22 (by simp)) rfl
          have g154 : act.eval (.tmp 154) = .pointer (some ⟨gr, or_, none⟩) := hF.val 23 _ 154 rfl (hall 23 (by simp)) rfl
          have g155 : act.eval (.tmp 155) = .agg #[.int .u64 zq, .int .i64 z.v] := hF.val 24 _ 155 rfl (hall 24 (by simp)) rfl
          have g156 : act.eval (.tmp 156) = .int .i64 0 := hF.val 25 _ 156 rfl (hall 25 (by simp)) rfl
          have g157 : act.eval (.tmp 157) = .bool false := hF.val 26 _ 157 rfl (hall 26 (by simp)) rfl
          have g158 : act.eval (.tmp 158) = .bool false := hF.val 27 _ 158 rfl (hall 27 (by simp)) rfl
          have g159 : act.eval (.tmp 159) = .bool false := hF.val 28 _ 159 rfl (hall 28 (by simp)) rfl
          have hact := hF.act [131, 132, 133, 134, 135, 136, 137, 138, 139, 140, 141, 142, 143, 144, 145, 146, 147, 148, 149, 150, 151, 152, 153, 154, 155, 156, 157, 158, 159] (by kernel_rfl)
          clear hF hall
          simp only [List.foldl_cons, List.foldl_nil] at hact
          rw [g131, g132, g133, g134, g135, g136, g137, g138, g139, g140, g141, g142, g143, g144, g145, g146, g147, g148, g149, g150, g151, g152, g153, g154, g155, g156, g157, g158, g159] at hact
          clear g131 g132 g133 g134 g135 g136 g137 g138 g139 g140 g141 g142 g143 g144 g145 g146 g147 g148 g149 g150 g151 g152 g153 g154 g155 g156 g157 g158 g159
          simp only [List.setIfInBounds_toArray, List.set_cons_succ, List.set_cons_zero] at hact
          subst hact
          obtain ⟨W13, hw13⟩ : ∃ W13, W13 = wz := ⟨_, rfl⟩
          subst hw13
          have hI13 : Below W12.heap.size W12 W13 := hI
          obtain ⟨hcell, hI12, hrl, hnr, hcr1, hL1, hcr⟩ := HCL.out
          have hT13 := hI12.trans (hI13.mono hI12.size)
          have FC5 := hidq (fun W (hW : Below W13.heap.size W13 W) => hcell W (hT13.trans (hW.mono hT13.size)))
          have HT13 := hidq hT13
          have hcrI : (1 : Int) ≤ (cr : Int) := by omega
          have hcr0 : 1 ≤ cr := by omega
          have hnc : nr ≤ cr := hcr1
          clear hcell hI12 hnr hcr1 hL1 hcr hI hI13 hT13 FC4 hIs
          go_wp2_with fail
          have hrefl : ∀ w : World, Reg.Keeps w w := Reg.Keeps.refl
          refine Reg.wp_region_props_tail 14 (Reg.ofList (mal23Ritem hb sh r nr cr gr or_ o9)) Reg.Keeps (fun _ w => Reg.Keeps W13 w) (by kernel_rfl) (by kernel_rfl) (by kernel_rfl) (Reg.AllKept.at _ (mal23Ritem_kept hb sh r nr cr gr or_ o9)) hrefl (Reg.Keeps.drewN (Reg.Keeps.refl _) 1) ⟨?_, ?_, ?_, ?_, ?_, ?_, ?_, ?_, ?_, ?_, ?_, ?_, ?_, ?_, trivial⟩ ?_
          · refine Reg.StepAt.plain (i := 0) rfl ?_
            intro L ev w hI hk hp hA
            have e8 : ev (.tmp 8) = .slice (some ⟨hb, 0, none⟩) sh sh := hA.oldNone 8 (by kernel_rfl)
            have hcc := hA.const
            clear hA hp
            refine Reg.out_value (v := .slice (some ⟨hb, 0, none⟩) sh sh) ?_ ⟨rfl, hrefl _, hI⟩
            go_simp
          · refine Reg.StepAt.plain (i := 1) rfl ?_
            intro L ev w hI hk hp hA
            have e14 : ev (.tmp 14) = .int .i64 (r : Int) := hA.oldNone 14 (by kernel_rfl)
            have hcc := hA.const
            clear hA hp
            refine Reg.out_value (v := .int .i64 (r : Int)) ?_ ⟨rfl, hrefl _, hI⟩
            go_simp
          · refine Reg.StepAt.plain (i := 2) rfl ?_
            intro L ev w hI hk hp hA
            have e8 : ev (.tmp 8) = .slice (some ⟨hb, 0, none⟩) sh sh := hA.oldNone 8 (by kernel_rfl)
            have hcc := hA.const
            clear hA hp
            refine Reg.out_value (v := .slice (some ⟨hb, 0, none⟩) sh sh) ?_ ⟨rfl, hrefl _, hI⟩
            go_simp
          · refine Reg.StepAt.plain (i := 3) rfl ?_
            intro L ev w hI hk hp hA
            have e14 : ev (.tmp 14) = .int .i64 (r : Int) := hA.oldNone 14 (by kernel_rfl)
            have hcc := hA.const
            clear hA hp
            refine Reg.out_value (v := .int .i64 (r : Int)) ?_ ⟨rfl, hrefl _, hI⟩
            go_simp
          · refine Reg.StepAt.plain (i := 4) rfl ?_
            intro L ev w hI hk hp hA
            have e162 : ev (.tmp 162) = .slice (some ⟨hb, 0, none⟩) sh sh := hA.val 2 _ 162 rfl (hp ⟨2, .data⟩ (by simp) rfl) rfl
            have e163 : ev (.tmp 163) = .int .i64 (r : Int) := hA.val 3 _ 163 rfl (hp ⟨3, .data⟩ (by simp) rfl) rfl
            have hcc := hA.const
            clear hA hp
            refine Reg.out_value (v := .pointer (some ⟨hb, r, none⟩)) ?_ ⟨rfl, hrefl _, hI⟩
            go_simp
          · refine Reg.StepAt.plain (i := 5) rfl ?_
            intro L ev w hI hk hp hA
            have e164 : ev (.tmp 164) = .pointer (some ⟨hb, r, none⟩) := hA.val 4 _ 164 rfl (hp ⟨4, .data⟩ (by simp) rfl) rfl
            have hcc := hA.const
            clear hA hp
            have f3 := FC5.out w hI
            refine Reg.out_value (v := .slice (some ⟨gr, or_, none⟩) nr cr) ?_ ⟨rfl, hrefl _, hI⟩
            go_simp
          · refine Reg.StepAt.plain (i := 6) rfl ?_
            intro L ev w hI hk hp hA
            have e8 : ev (.tmp 8) = .slice (some ⟨hb, 0, none⟩) sh sh := hA.oldNone 8 (by kernel_rfl)
            have hcc := hA.const
            clear hA hp
            refine Reg.out_value (v := .slice (some ⟨hb, 0, none⟩) sh sh) ?_ ⟨rfl, hrefl _, hI⟩
            go_simp
          · refine Reg.StepAt.plain (i := 7) rfl ?_
            intro L ev w hI hk hp hA
            have e14 : ev (.tmp 14) = .int .i64 (r : Int) := hA.oldNone 14 (by kernel_rfl)
            have hcc := hA.const
            clear hA hp
            refine Reg.out_value (v := .int .i64 (r : Int)) ?_ ⟨rfl, hrefl _, hI⟩
            go_simp
          · refine Reg.StepAt.plain (i := 8) rfl ?_
            intro L ev w hI hk hp hA
            have e166 : ev (.tmp 166) = .slice (some ⟨hb, 0, none⟩) sh sh := hA.val 6 _ 166 rfl (hp ⟨6, .data⟩ (by simp) rfl) rfl
            have e167 : ev (.tmp 167) = .int .i64 (r : Int) := hA.val 7 _ 167 rfl (hp ⟨7, .data⟩ (by simp) rfl) rfl
            have hcc := hA.const
            clear hA hp
            refine Reg.out_value (v := .pointer (some ⟨hb, r, none⟩)) ?_ ⟨rfl, hrefl _, hI⟩
            go_simp
          · refine Reg.StepAt.plain (i := 9) rfl ?_
            intro L ev w hI hk hp hA
            have e168 : ev (.tmp 168) = .pointer (some ⟨hb, r, none⟩) := hA.val 8 _ 168 rfl (hp ⟨8, .data⟩ (by simp) rfl) rfl
            have hcc := hA.const
            clear hA hp
            have f3 := FC5.out w hI
            refine Reg.out_value (v := .slice (some ⟨gr, or_, none⟩) nr cr) ?_ ⟨rfl, hrefl _, hI⟩
            go_simp
          · refine Reg.StepAt.plain (i := 10) rfl ?_
            intro L ev w hI hk hp hA
            have e169 : ev (.tmp 169) = .slice (some ⟨gr, or_, none⟩) nr cr := hA.val 9 _ 169 rfl (hp ⟨9, .data⟩ (by simp) rfl) rfl
            have hcc := hA.const
            clear hA hp
            refine Reg.out_value (v := .int .i64 (nr : Int)) ?_ ⟨rfl, hrefl _, hI⟩
            go_simp
          · refine Reg.StepAt.plain (i := 11) rfl ?_
            intro L ev w hI hk hp hA
            have e170 : ev (.tmp 170) = .int .i64 (nr : Int) := hA.val 10 _ 170 rfl (hp ⟨10, .data⟩ (by simp) rfl) rfl
            have hcc := hA.const
            clear hA hp
            refine Reg.out_value (v := .int .i64 1) ?_ ⟨rfl, hrefl _, hI⟩
            (go_simp; try omega)
          · refine Reg.StepAt.plain (i := 12) rfl ?_
            intro L ev w hI hk hp hA
            have e165 : ev (.tmp 165) = .slice (some ⟨gr, or_, none⟩) nr cr := hA.val 5 _ 165 rfl (hp ⟨5, .data⟩ (by simp) rfl) rfl
            have e171 : ev (.tmp 171) = .int .i64 1 := hA.val 11 _ 171 rfl (hp ⟨11, .data⟩ (by simp) rfl) rfl
            have hcc := hA.const
            clear hA hp
            refine Reg.out_value (v := .slice (some ⟨gr, o9, none⟩) (nr - 1) (cr - 1)) ?_ ⟨rfl, hrefl _, hI⟩
            (have h9 := HO9.out; by_cases hcj : cr = 1; (rw [if_pos hcj] at h9; subst h9; go_simp); (rw [if_neg hcj] at h9; subst h9; go_simp))
          · refine Reg.StepAt.plain (i := 13) rfl ?_
            intro L ev w hI hk hp hA
            have e160 : ev (.tmp 160) = .slice (some ⟨hb, 0, none⟩) sh sh := hA.val 0 _ 160 rfl (hp ⟨0, .data⟩ (by simp) rfl) rfl
            have e161 : ev (.tmp 161) = .int .i64 (r : Int) := hA.val 1 _ 161 rfl (hp ⟨1, .data⟩ (by simp) rfl) rfl
            have hcc := hA.const
            clear hA hp
            refine Reg.out_value (v := .pointer (some ⟨hb, r, none⟩)) ?_ ⟨rfl, hrefl _, hI⟩
            go_simp
          intro act wz hI hF
          have g160 : act.eval (.tmp 160) = .slice (some ⟨hb, 0, none⟩) sh sh := hF.val 0 _ 160 rfl (by kernel_rfl) rfl
          have g161 : act.eval (.tmp 161) = .int .i64 (r : Int) := hF.val 1 _ 161 rfl (by kernel_rfl) rfl
          have g162 : act.eval (.tmp 162) = .slice (some ⟨hb, 0, none⟩) sh sh := hF.val 2 _ 162 rfl (by kernel_rfl) rfl
          have g163 : act.eval (.tmp 163) = .int .i64 (r : Int) := hF.val 3 _ 163 rfl (by kernel_rfl) rfl
          have g164 : act.eval (.tmp 164) = .pointer (some ⟨hb, r, none⟩) := hF.val 4 _ 164 rfl (by kernel_rfl) rfl
          have g165 : act.eval (.tmp 165) = .slice (some ⟨gr, or_, none⟩) nr cr := hF.val 5 _ 165 rfl (by kernel_rfl) rfl
          have g166 : act.eval (.tmp 166) = .slice (some ⟨hb, 0, none⟩) sh sh := hF.val 6 _ 166 rfl (by kernel_rfl) rfl
          have g167 : act.eval (.tmp 167) = .int .i64 (r : Int) := hF.val 7 _ 167 rfl (by kernel_rfl) rfl
          have g168 : act.eval (.tmp 168) = .pointer (some ⟨hb, r, none⟩) := hF.val 8 _ 168 rfl (by kernel_rfl) rfl
          have g169 : act.eval (.tmp 169) = .slice (some ⟨gr, or_, none⟩) nr cr := hF.val 9 _ 169 rfl (by kernel_rfl) rfl
          have g170 : act.eval (.tmp 170) = .int .i64 (nr : Int) := hF.val 10 _ 170 rfl (by kernel_rfl) rfl
          have g171 : act.eval (.tmp 171) = .int .i64 1 := hF.val 11 _ 171 rfl (by kernel_rfl) rfl
          have g172 : act.eval (.tmp 172) = .slice (some ⟨gr, o9, none⟩) (nr - 1) (cr - 1) := hF.val 12 _ 172 rfl (by kernel_rfl) rfl
          have g173 : act.eval (.tmp 173) = .pointer (some ⟨hb, r, none⟩) := hF.val 13 _ 173 rfl (by kernel_rfl) rfl
          have hact := hF.actHead [160, 161, 162, 163, 164, 165, 166, 167, 168, 169, 170, 171, 172, 173] (by kernel_rfl)
          clear hF
          simp only [List.foldl_cons, List.foldl_nil] at hact
          rw [g160, g161, g162, g163, g164, g165, g166, g167, g168, g169, g170, g171, g172, g173] at hact
          clear g160 g161 g162 g163 g164 g165 g166 g167 g168 g169 g170 g171 g172 g173
          simp only [List.setIfInBounds_toArray, List.set_cons_succ, List.set_cons_zero] at hact
          subst hact
          simp only [List.drop_succ_cons, List.drop_zero]
          have hIz : Below W13.heap.size W13 wz := hI
          obtain ⟨hcell, hI12, _, hnr, hcr1, hL1, hcr⟩ := HCL.out
          have hT := HT13.out.trans (hIz.mono HT13.out.size)
          have HZ := hidq (show MA w sb mb hb sh (i + 1) (upd a r (some ⟨gr, o9, none⟩)) (upd c r (cr - 1)) (upd Ls r K) (wz.setCell ⟨hb, r, none⟩ (.slice (some ⟨gr, o9, none⟩) (nr - 1) (cr - 1))) from by
            have := FIN.out wz r K (some ⟨gr, o9, none⟩) (cr - 1) hT hL1 hrl (HT9.out.below hT) (by omega) (fun j hj => by
              obtain ⟨b1, b2, b3, b4⟩ := HR4.out j hj
              exact ⟨b1, Nat.lt_of_lt_of_le b2 hT.size, b3, b4⟩)
            rw [show K.length = nr - 1 by omega] at this
            exact this)
          obtain ⟨cz, fz⟩ := (HH.out.below hT).cell hrl
          have hbl : hb < wz.heap.size := (HH.out.below hT).box.lt
          clear hI hIz hcell hI12 hnr hcr1 hL1 hcr hT FIN HH HCL HT9 HR4 HT13 FC5
          go_wp2
          go_roundw
          case rel => exact ⟨i + 1, _, _, _, by go_num, by have := HLT.out; omega, HZ⟩
          case measure => simp [intOf]; omega
    · have hnd : ¬ ((i : Int) < (n : Int)) ∨ ((i : Int) < (n : Int) ∧ ¬ ((i : Int) < 20)) := by omega
      have HL := hidq (show Below w.heap.size w W1 from by obtain ⟨_, _, hS, _⟩ := hT.out; exact hS.low)
      clear hT HOPS
      rcases hnd with h' | ⟨h', h''⟩
      · have hd1 : decide ((i : Int) < (n : Int)) = false := decide_eq_false h'
        have hd2 : decide (i < n) = false := decide_eq_false (by omega)
        clear hlt h'
        go_wp2
        go_ret
        exact ⟨rfl, HL.out⟩
      · have hd1 : decide ((i : Int) < 20) = false := decide_eq_false h''
        have hd2 : decide (i < 20) = false := decide_eq_false (by omega)
        clear hlt h''
        go_wp2
        go_ret
        exact ⟨rfl, HL.out⟩
end Go.Proofs.Ytclcmabohpoaiaa
