/-
 each over stages; a row of many cells, loaded and stored as a whole. Conditions: they are as they come in.
-/
import Derived.Test.YtimmcmjipmkebaaGreatVTCB
import Derived.Deep.WholeRow
import Derived.Deep.MidRow
namespace Go.Proofs.YtimmcmjipmkebaaGreat
open Go.ChangeShapes Go.WideShapes Go.ChangeAt Go.RowKit
set_option maxRecDepth 100000
set_option linter.unusedSimpArgs false
theorem infoESt : (Tryz.prog.info? 91).map (fun i => (i.zero, i.size, i.bytes)) = some (some (.agg #[.string ⟨#[]⟩, .int .i64 0, .string ⟨#[]⟩, .int .i64 0, .int .i64 0, .slice none 0 0, .int .i64 0, .int .i64 0, .string ⟨#[]⟩, .int .u64 0, .int .u64 0, .int .u64 0, .int .u64 0, .slice none 0 0, .int .i64 0, .int .i64 0, .int .u64 0, .int .u64 0, .int .u64 0, .int .u64 0, .bool false]), 21, 224) := by kernel_rfl
attribute [-simp] Tryz.isAgg91 Tryz.sizeOf91
attribute [-go_sem] Instr.buildSlice
set_option maxHeartbeats 4000000 in
theorem each_St (g : Nat) (lb : Array Value) (eg : Enters Tryz.prog g) (X : Sl Mta) (w : World) (hlen : X.l.length * 224 ≤ 140737488351232) (hr : Rd w X.A (X.l.flatMap Mta.cells))
 (hp : ∀ W y, y ∈ X.l → Below w.heap.size w W → Calls Tryz.prog g (#[.agg (Mta.cells y).toArray] ++ lb) W fun e W' => ∃ y' : Mta, e = .returned (.agg (Mta.cells y').toArray) ∧ OwnSt W.heap.size W' y' ∧ Mta.plain y' = Mta.plain y ∧ Below W.heap.size W W') :
 Calls Tryz.prog 101 #[.slice X.A X.l.length X.c, .func (.func g) #[] lb] w fun e w' => ∃ Y : Sl Mta, e = .returned Y.val ∧ Y.l.map Mta.plain = X.l.map Mta.plain ∧ w'.ownsRow w.heap.size 91 21 Y.val Y.l.length (Y.l.flatMap Mta.cells) ∧ (∀ y ∈ Y.l, OwnSt w.heap.size w' y) ∧ Below w.heap.size w w' := by
 obtain ⟨A, l, c⟩ := X
 dsimp only at hlen hr hp ⊢
 have eg' : ∀ args w, (callFunc g args).run Tryz.prog w = .ok (.enter g args) w := eg
 have hinf : (Tryz.prog.info? 91).map (·.size) = some 21 := by kernel_rfl
 have HPP := zI hp
 clear hp
 go_enter Tryz.func101, Tryz.ntmps101
 go_wp2
 go_loopw [5, 10] (fun v i W => ∃ (k : Nat) (o : List Mta), k ≤ l.length ∧ i = .int .i64 k ∧ o.length ≤ k ∧ Hid (o.map Mta.plain = (l.take k).map Mta.plain) ∧ Hid (∀ y ∈ o, OwnSt w.heap.size W y) ∧ Hid (W.ownsRow w.heap.size 91 21 v o.length (o.flatMap Mta.cells)) ∧ Below w.heap.size w W) (fun _ i _ => l.length - (intOf i).toNat)
 case atStart => exact ⟨0, [], Nat.zero_le _, rfl, Nat.le_refl _, zI (by simp), zI (by simp), zI (ownNone _ _ _ _), Below.refl _ _⟩
 case round =>
  obtain ⟨k, o, hk, rfl, hol, HM, HGD, HO, hB⟩ := hrel
  obtain ⟨Av, cv, hv, _, _, _, _⟩ := ownAny HO.out
  subst hv
  by_cases hlt : k < l.length
  · obtain ⟨y, hy⟩ : ∃ y, l[k]? = some y := ⟨l[k], qZa hlt⟩
    obtain ⟨b, off, rfl, hb, hc⟩ := load_elem Tryz.prog (n := 21) (fun _ => rfl) (by omega) (hr.below hB) hy
    obtain ⟨cs, hcs⟩ : ∃ cs, y.cells.toArray = cs := ⟨_, rfl⟩
    have hn : cs.size = 21 := by rw [← hcs]; rfl
    have hone : cs.all (·.oneCell') = true := by rw [← hcs]; simp [Mta.cells, MR_.cells, MSum.cells, Value.oneCell']
    rw [hcs] at hc
    have hlc := hc wr (Below.refl _ _)
    have hsc := run_storeCells_new (P := Tryz.prog) wr 91 #[.string ⟨#[]⟩, .int .i64 0, .string ⟨#[]⟩, .int .i64 0, .int .i64 0, .slice none 0 0, .int .i64 0, .int .i64 0, .string ⟨#[]⟩, .int .u64 0, .int .u64 0, .int .u64 0, .int .u64 0, .slice none 0 0, .int .i64 0, .int .i64 0, .int .u64 0, .int .u64 0, .int .u64 0, .int .u64 0, .bool false] cs (by rw [hinf, hn]) (by rw [hn]; rfl) hone
    have hld := run_loadCellsFrom_new (P := Tryz.prog) wr 91 cs 21 hn
    have HP := zI (HPP.out (wr.alloc (.cells cs 91)) y (mG hy) (hB.trans (((Below.refl _ wr).alloc (Nat.le_refl _) _).mono hB.size)))
    rw [hcs] at HP
    have hB2 : Below wr.heap.size wr (wr.alloc (.cells cs 91)) := (Below.refl _ wr).alloc (Nat.le_refl _) _
    have hs2 := hB2.size
    have hs1 := hB.size
    have HY := zI hy
    have HB2 := zI hB2
    clear hc hy hcs hone hB2
    go_wp2_with fail
    simp only [Tryz.sizeOf91, Result.andThen]
    rw [Oper.upon_value]
    go_wp2_with fail
    simp only [Tryz.isAgg91, Tryz.sizeOf91, Result.andThen, ↓reduceIte, hlc]
    rw [Oper.upon_value]
    go_wp2_with fail
    simp only [Tryz.sizeOf91, Result.andThen, ↓reduceIte, hsc]
    rw [Oper.upon_skip]
    go_wp2_with fail
    simp only [Tryz.isAgg91, Tryz.sizeOf91, Result.andThen, ↓reduceIte, hld]
    rw [Oper.upon_value]
    go_wp2_with fail
    refine HP.out.mono ?_
    rintro e w3 ⟨y2, rfl, hl2, hf2, hB3⟩
    have hB13 : Below wr.heap.size wr w3 := HB2.out.trans (hB3.mono hs2)
    have hX3 := hB.trans (hB13.mono hB.size)
    have hs3 := hX3.size
    have HO3 := zI (zgQ HO.out hB13 (Nat.le_refl _))
    have HM' : Hid ((o ++ [y2]).map Mta.plain = (l.take (k + 1)).map Mta.plain) := zI (by
     rw [List.map_append, HM.out, List.take_add_one, HY.out, List.map_append]
     show _ ++ [Mta.plain y2] = _ ++ [Mta.plain y]
     rw [hf2])
    have HL2 := zI hl2
    clear HP HO HM hf2 hl2 HY hsc hld hlc
    have hbu : ∀ W : World, (Instr.buildSlice 24 1 #[(0, .agg y2.cells.toArray)]).run Tryz.prog W = .ok (.slice (some ⟨W.heap.size, 0, none⟩) 1 1) (W.alloc (.cells y2.cells.toArray 91)) := fun W => run_buildOne Tryz.prog W _ _ _ 21 _ 224 Tryz.underlying24 infoESt (by decide) (by decide) rfl
    go_wp2_with (at_builtin; refine wpAppendK rfl rfl Tryz.underlying24 Mta.cells (fun _ => rfl) (by decide) (fun y u hu => by simp only [Mta.cells, MR_.cells, MSum.cells, List.cons_append, List.nil_append, List.append_assoc, List.mem_cons, List.not_mem_nil, or_false] at hu; rcases hu with rfl | rfl | rfl | rfl | rfl | rfl | rfl | rfl | rfl | rfl | rfl | rfl | rfl | rfl | rfl | rfl | rfl | rfl | rfl | rfl | rfl <;> rfl) infoESt rfl hX3 hs3 HO3.out y2 rfl rfl (by unfold maxLen; omega) (by omega) ?_; intro g6 c6 x6 HO6 HB6 HK6)
    have HG' : Hid (∀ y ∈ o ++ [y2], OwnSt w.heap.size x6 y) := zI fun y hy => by
     have h : OwnSt w.heap.size w3 y := by
      rcases List.mem_append.1 hy with h | h
      · exact (HGD.out y h).below hB13
      · simp at h
        subst h
        exact HL2.out.base (by have := hB.size; omega)
     exact h.keep HK6.out (by decide) (by decide)
    go_roundw
    case rel => exact ⟨k + 1, o ++ [y2], by omega, by go_num, by simp; omega, HM', HG', zI (by simpa using HO6.out), HB6.out⟩
    case measure => simp [intOf]; omega
  · have hke : l.take k = l := List.take_of_length_le (by omega)
    rw [hke] at HM
    clear hke
    go_wp2
    go_ret
    exact ⟨⟨Av, o, cv⟩, rfl, HM.out, HO.out, HGD.out, hB⟩
end Go.Proofs.YtimmcmjipmkebaaGreat
