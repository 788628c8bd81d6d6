/-
  Contracts of crc's Seal and Open, and of the reference's Seal.
-/
import Derived.Test.YtedhecbcpcmlmaaRef4
import Derived.Laws.IdiomStrings
import Derived.Deep.RegionWith
namespace Go.Proofs.Ytedhecbcpcmlmaa
open Go.RowKit

theorem fix4_cells (n : Nat) (hn : n < 4294967296) : Sl.cells (Oct.fixB 4 n) = [.int .u8 ((n : Int) % 256), .int .u8 ((n : Int) / 256 % 256), .int .u8 ((n : Int) / 65536 % 256), .int .u8 ((n : Int) / 16777216)] := by
  have h3 : n / 256 / 256 / 256 % 256 = n / 16777216 := by omega
  have h2 : n / 256 / 256 % 256 = n / 65536 % 256 := by omega
  simp only [Oct.fixB, Sl.cells, List.map_cons, List.map_nil, Oct.byte_mod, h3, h2]
  rfl

set_option maxHeartbeats 400000 in
theorem refWord_any (n : Nat) (w : World) (hn : n < 4294967296) :
    Calls Try.prog 61 #[.int .u32 (n : Int)] w fun e w' => e = .returned (.string ⟨(Oct.fixB 4 n).toArray⟩) ∧ Reg.Keeps w w' := by
  have hst := str_sl (w.alloc (.cells #[.int .u8 ((n : Int) % 256), .int .u8 ((n : Int) / 256 % 256), .int .u8 ((n : Int) / 65536 % 256), .int .u8 ((n : Int) / 16777216)] 5)) (.slice (some ⟨w.heap.size, 0, none⟩) 4 4) (Oct.fixB 4 n) (by rw [fix4_cells n hn]; exact Reg.OwnSl.new _ w 5 4 rfl)
  go_enter Try.func61, Try.ntmps61
  go_wp2
  go_ret
  exact ⟨rfl, (Reg.Keeps.refl _).alloc _⟩

/-- A text, sealed. -/
def sealB (l : List UInt8) : List UInt8 := l ++ Oct.fixB 4 (Crc.more 0 l)
theorem sealB_length (l : List UInt8) : (sealB l).length = l.length + 4 := by simp [sealB, Oct.fixB_length]
theorem cat_bytes (s : ByteArray) (l : List UInt8) : s ++ (⟨l.toArray⟩ : ByteArray) = ⟨(s.data.toList ++ l).toArray⟩ := by
  apply ByteArray.ext; simp

set_option maxHeartbeats 400000 in
theorem refSeal_any (s : ByteArray) (w : World) (hs : s.size ≤ 1300) :
    Calls Try.prog 45 #[.string s] w fun e w' => e = .returned (.string ⟨(sealB s.data.toList).toArray⟩) ∧ Reg.Keeps w w' := by
  have Hc : Hid (s ++ (⟨(Oct.fixB 4 (Crc.more 0 s.data.toList)).toArray⟩ : ByteArray) = ⟨(sealB s.data.toList).toArray⟩) := cat_bytes _ _
  have hl := Oct.fixB_length 4 (Crc.more 0 s.data.toList)
  go_enter Try.func45, Try.ntmps45
  go_wp2_with fail
  refine (refSum_any s _ hs).mono ?_
  rintro e w1 ⟨rfl, hk1⟩
  go_wp2_with fail
  refine (refWord_any _ _ (Crc.more_lt _ _)).mono ?_
  rintro e w2 ⟨rfl, hk2⟩
  go_wp2
  go_ret
  exact ⟨congrArg (fun x => Ending.returned (.string x)) Hc.out, hk1.trans hk2⟩

/-- []byte(s). -/
theorem run_bytes (s : ByteArray) (w : World) (hs : s.size ≤ 549755813888) : ∃ v w', (convert 9 36 (.string s)).run Try.prog w = .ok v w' ∧ Sl.Own w' v (Sl.cells s.data.toList) ∧ Reg.Keeps w w' ∧ v ≠ .slice none 0 0 ∧ v.ownBlock = some w.heap.size := by
  have hr := run_bytes_of_string (P := Try.prog) w 9 36 5 s Try.underlying9 Try.underlying36 Try.underlying5
  have hge := grownCap_ge w s.size 0 5
  have hcm := grownCap_le_maxLen w s.size 0 5 (by unfold maxLen; omega)
  generalize grownCap w s.size 0 5 = cap at *
  refine ⟨_, _, hr, .inr ⟨w.heap.size, cap, by rw [Sl.cells_length]; simp, ?_⟩, ?_, by simp, rfl⟩
  · have hc : ∀ j, (w.drew.alloc (.cells (bytesRow s cap) 5 ((bytesRow s cap).size, (bytesRow s cap).size + 1))).cell? ⟨w.heap.size, j, none⟩ = (bytesRow s cap)[j]? := fun j => World.cell?_alloc_mark w.drew _ _ _ j
    have hsz : cap ≤ (bytesRow s cap).size := by unfold bytesRow; simp; omega
    refine ⟨by simp, by rw [Sl.cells_length]; simpa using hge, hcm, fun j u hu => ?_, fun j hj => ⟨?_, ?_⟩⟩
    · rw [hc]
      have hj : j < s.data.size := by have := (List.getElem?_eq_some_iff.1 hu).1; rw [Sl.cells_length] at this; simpa using this
      rw [bytesRow_at s cap j hj]
      simp only [Sl.cells, List.getElem?_map, Option.map_eq_some_iff] at hu
      obtain ⟨a, ha, rfl⟩ := hu
      rw [Array.getElem?_toList, Array.getElem?_eq_getElem hj] at ha
      injection ha with ha
      rw [ha]
    · rw [hc, Array.getElem?_eq_getElem (Nat.lt_of_lt_of_le hj hsz)]; rfl
    · have := World.frozen?_alloc_mark w.drew (bytesRow s cap) 5 (bytesRow s cap).size ((bytesRow s cap).size + 1) j
      rw [show w.drew.heap.size = w.heap.size from rfl] at this
      rw [this]
      have : ¬ (bytesRow s cap).size ≤ j := by omega
      simp [this]
  · exact ((Reg.Keeps.refl w).drewN 1).alloc _

set_option maxHeartbeats 400000 in
theorem seal_any (b : Nat) (s : ByteArray) (w : World) (ht : TabAt w b) (hb : b < w.heap.size) (hs : s.size ≤ 549755813000) :
    Calls Try.prog 42 #[.pointer (some ⟨b, 0, none⟩), .string s] w fun e w' => e = .returned (.string ⟨(sealB s.data.toList).toArray⟩) ∧ Reg.Keeps w w' := by
  obtain ⟨v, w1, hrun, ho, hk, hnn, hown⟩ := run_bytes s w (by omega)
  have Ht : Hid (TabAt w1 b) := ht.below hb hk
  have hb1 : b < w1.heap.size := Nat.lt_of_lt_of_le hb hk.size
  clear ht
  go_enter Try.func42, Try.ntmps42
  go_wp2_with fail
  refine (sum_any b w1.heap.size 1 [s] _ (Ht.out.alloc hb1 _) (by simp) (parts_one _ (by unfold maxLen; omega))).mono ?_
  rintro e w2 ⟨rfl, n, rfl⟩
  go_wp2_with fail
  refine (word_any v _ (Crc.more 0 s.data.toList) _ ((ho.alloc _).drewN _) (by rw [Sl.cells_length]; simp; omega) (Crc.more_lt _ _)).mono ?_
  rintro e w3 ⟨v3, rfl, ho3, hf3, _⟩
  rw [← Sl.cells_append] at ho3
  have hst := str_of w3 v3 _ ho3
  go_wp2
  go_ret
  refine ⟨rfl, ?_⟩
  refine Below.trans hk (Below.trans ?_ (hf3.below (by have := hk.size; simp; omega) (fun k hk2 => by rw [hown] at hk2; injection hk2 with e; omega)))
  exact Below.drewN ((Below.refl _ _).alloc hk.size _) n
end Go.Proofs.Ytedhecbcpcmlmaa
