/-
  firstWord answers the first word of octets, with zeros for those that lack. No conditions.
-/
import Derived.Test.YtmehjmkakkiedaaGreatMFM
import Derived.Laws.CopyOwn
import Derived.Lib.Hide
import Derived.IntWalk
namespace Go.Proofs.YtmehjmkakkiedaaGreat
open Go.ChangeShapes Go.WideShapes Go.ChangeAt Go.RowKit
set_option maxRecDepth 100000

theorem size5 : (Tryz.prog.info? 5).map (·.size) = some 1 := by kernel_rfl

/-- The first four octets, as cells. -/
def lay4 (zs : List Int) : List Value := (zs.take 4).map (Value.int .u8)
theorem lay4_length (zs : List Int) : (lay4 zs).length = min 4 zs.length := by simp [lay4]
theorem lay4_one (zs : List Int) : ∀ v ∈ lay4 zs, v.oneCell' = true := fun v hv => by
  obtain ⟨z, _, rfl⟩ := List.mem_map.1 hv
  rfl
theorem lay4_at (zs : List Int) (j : Nat) (v : Value) (h : (lay4 zs)[j]? = some v) : (zs.map (Value.int .u8))[j]? = some v := by
  unfold lay4 at h
  rw [List.map_take, List.getElem?_take] at h
  split at h
  · exact h
  · cases h
theorem splice_word (zs : List Int) : splice [.int .u8 0, .int .u8 0, .int .u8 0, .int .u8 0] 0 (lay4 zs) = [.int .u8 (oct zs 0), .int .u8 (oct zs 1), .int .u8 (oct zs 2), .int .u8 (oct zs 3)] := by
  rcases zs with _ | ⟨a, _ | ⟨b, _ | ⟨c, _ | ⟨d, zs⟩⟩⟩⟩ <;> simp [splice, oct, lay4]

set_option maxHeartbeats 400000 in
theorem firstWord_any (A : Option Addr) (c : Nat) (zs : List Int) (ho : Octs zs) (w : World) (hr : RdB w A zs) :
    Calls Tryz.prog 138 #[.slice A zs.length c] w fun e w' => e = .returned (.int .u32 (word zs)) ∧ Below w.heap.size w w' := by
  have HR := Lib.hid hr
  clear hr
  go_enter Tryz.func138, Tryz.ntmps138
  go_wp2_with (refine wpList_copy_splice (o := ⟨some 6, _, _, _, _, _⟩) rfl (.tmp 4) (.tmp 5) 46 46 rfl 5 Tryz.underlying46 size5 _ A 4 4 zs.length c rfl rfl w.heap.size 0 [.int .u8 0, .int .u8 0, .int .u8 0, .int .u8 0] 238 ?hg (lay4 zs) ?hn ?hpos ?hfit (lay4_one zs) w.heap.size w ?hb (Nat.le_refl _) ?hrest)
  case hg => exact heap_alloc_new w _
  case hn => rw [lay4_length]; exact Nat.min_comm _ _
  case hpos =>
    intro hp
    rw [lay4_length] at hp
    obtain ⟨b, off, rfl, hb, hc⟩ := HR.out (by intro h; rw [List.map_eq_nil_iff] at h; subst h; simp at hp)
    refine ⟨_, rfl, fun j v hj => ?_⟩
    rw [add_plain]
    exact (((Below.refl w.heap.size w).alloc (Nat.le_refl _) _).cell (p := ⟨b, off + j, none⟩) hb).trans (hc j v (lay4_at zs j v hj))
  case hfit => rw [lay4_length]; simp; omega
  case hb => exact (Below.refl w.heap.size w).alloc (Nat.le_refl _) _
  case hrest =>
    intro w1 hw1 hB1
    rw [splice_word] at hw1
    have b0 := oct_bd ho 0
    have b1 := oct_bd ho 1
    have b2 := oct_bd ho 2
    have b3 := oct_bd ho 3
    have hwd : word zs = oct zs 0 * 16777216 + oct zs 1 * 65536 + oct zs 2 * 256 + oct zs 3 := rfl
    generalize oct zs 0 = o0 at *
    generalize oct zs 1 = o1 at *
    generalize oct zs 2 = o2 at *
    generalize oct zs 3 = o3 at *
    have c0 : w1.cell? ⟨w.heap.size, 0, none⟩ = some (.int .u8 o0) := cell_of_row w1 w.heap.size 0 _ _ _ hw1.out
    have c1 : w1.cell? ⟨w.heap.size, 1, none⟩ = some (.int .u8 o1) := cell_of_row w1 w.heap.size 1 _ _ _ hw1.out
    have c2 : w1.cell? ⟨w.heap.size, 2, none⟩ = some (.int .u8 o2) := cell_of_row w1 w.heap.size 2 _ _ _ hw1.out
    have c3 : w1.cell? ⟨w.heap.size, 3, none⟩ = some (.int .u8 o3) := cell_of_row w1 w.heap.size 3 _ _ _ hw1.out
    have HW := Lib.hid hwd
    clear hwd hw1 ho HR
    go_wp2
    go_ret
    refine ⟨?_, hB1⟩
    rw [HW.out, ← or_word o0 o1 o2 o3 b0 b1 b2 b3]
    rfl

end Go.Proofs.YtmehjmkakkiedaaGreat
