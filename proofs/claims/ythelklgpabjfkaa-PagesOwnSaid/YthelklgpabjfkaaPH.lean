/-
  Glue of pages. Conditions: the slices are ones that may be; at most 2^47 / 52 of them.
-/
import Derived.Test.YthelklgpabjfkaaPD
import Derived.LoopTactic
import Derived.Test.YthelklgpabjfkaaGW
namespace Go.Proofs.Ythelklgpabjfkaa
open Go.ChangeShapes Go.WideShapes Go.ChangeAt Go.RowKit

/-- Is it a page without next? -/
def pgFree (z : List Int) : Bool := pgIs z && decide (pgNext z = 0)
/-- What the pages hold. -/
def gl (zss : List (List Int)) : List Int := (zss.map pgCont).flatten
def glueAns (zss : List (List Int)) : List Int × Int := if zss.all pgFree = true then (gl zss, 0) else ([], 21)
theorem gl_snoc (zss : List (List Int)) (z : List Int) : gl (zss ++ [z]) = gl zss ++ pgCont z := by simp [gl]
theorem gl_le (zss : List (List Int)) (h : ∀ z ∈ zss, pgFree z = true) : (gl zss).length ≤ 52 * zss.length := by
  induction zss with
  | nil => simp [gl]
  | cons z zss ih =>
    have h1 := ih (fun x hx => h x (by simp [hx]))
    have h2 := h z (by simp)
    simp only [pgFree, Bool.and_eq_true] at h2
    have h3 := (pgE_ok.1 (pg_is h2.1).2.2.1).1
    simp only [gl, List.map_cons, List.flatten_cons, List.length_append, List.length_cons] at h1 ⊢
    omega

set_option maxHeartbeats 2000000 in
set_option maxRecDepth 100000 in
theorem glue_any (A : Option Addr) (c : Nat) (ls : List Slc) (hls : 52 * ls.length ≤ 140737488355328) (w : World) (hr : Rd w A (ls.map Slc.val)) (hok : ∀ s ∈ ls, s.ok w) :
    Calls Try.prog 16 #[.slice A ls.length c] w fun e w' => ∃ v, e = .returned (.tuple #[v, .int .i64 (glueAns (ls.map Slc.zs)).2]) ∧ w'.ownsRow w.heap.size 5 1 v (glueAns (ls.map Slc.zs)).1.length (octCells (glueAns (ls.map Slc.zs)).1) ∧ Below w.heap.size w w' := by
  obtain ⟨i0, hi, hz0, hz1, hz2⟩ := info_parts info5
  obtain ⟨b, off, hA, hcs⟩ : ∃ b off, (0 < ls.length → A = some ⟨b, off, none⟩ ∧ b < w.heap.size) ∧ ∀ (j : Nat) s, ls[j]? = some s → w.cell? ⟨b, off + j, none⟩ = some s.val := by
    by_cases he : ls = []
    · subst he
      exact ⟨0, 0, fun h => absurd h (by simp), fun j s hs => by simp at hs⟩
    · obtain ⟨b, off, e, hb, hc⟩ := hr (by simpa using he)
      exact ⟨b, off, fun _ => ⟨e, hb⟩, fun j s hs => hc j _ (by rw [List.getElem?_map, hs]; rfl)⟩
  obtain ⟨n, hn⟩ : ∃ n, ls.length = n := ⟨_, rfl⟩
  have HST : Hid (∀ (k : Nat) s, ls[k]? = some s → (ls.map Slc.zs).take (k + 1) = (ls.map Slc.zs).take k ++ [s.zs]) := fun k s hs => by
    rw [List.take_add_one, List.getElem?_map, hs]
    rfl
  have HALL : Hid ((ls.map Slc.zs).take n = ls.map Slc.zs) := List.take_of_length_le (by simp [hn])
  have HOK := Lib.hid hok
  have HCS := Lib.hid hcs
  have HA := Lib.hid hA
  have HN := Lib.hid hn
  have hbd : ∀ k, k ≤ n → (∀ z ∈ (ls.map Slc.zs).take k, pgFree z = true) → (gl ((ls.map Slc.zs).take k)).length ≤ 52 * k := fun k hk h => by
    have := gl_le _ h
    simp only [List.length_take, List.length_map] at this
    omega
  have HBD := Lib.hid hbd
  have HGA : Hid (∀ R, glueAns (ls.map Slc.zs) = R → R = if (ls.map Slc.zs).all pgFree = true then (gl (ls.map Slc.zs), 0) else ([], 21)) := fun R h => h ▸ rfl
  obtain ⟨R, hR⟩ : ∃ R, glueAns (ls.map Slc.zs) = R := ⟨_, rfl⟩
  have HRR := Lib.hid (HGA.out R hR)
  rw [hR]
  rw [hn] at hls ⊢
  clear hR HGA
  generalize ls.map Slc.zs = zss at *
  clear hr hok hcs hA hn hbd
  go_enter Try.func16, Try.ntmps16
  go_wp2_with fail
  go_loopw [4, 12] (fun v i wr => ∃ (k : Nat), k ≤ n ∧ i = .int .i64 k ∧ Hid (wr.ownsRow w.heap.size 5 1 v (gl (zss.take k)).length (octCells (gl (zss.take k)))) ∧ Hid (∀ z ∈ zss.take k, pgFree z = true) ∧ Below w.heap.size w wr)
    (fun v i _ => n - (intOf i).toNat)
  case atStart =>
    exact ⟨0, Nat.zero_le _, rfl, own_none _ _ _, fun z hz => by simp at hz, Below.refl _ _⟩
  case round =>
    obtain ⟨k, hk, rfl, HO, HF, hB⟩ := hrel
    by_cases hlt : k < n
    · obtain ⟨rfl, hb⟩ := HA.out (by rw [HN.out]; omega)
      obtain ⟨s, hs⟩ : ∃ s, ls[k]? = some s := ⟨_, List.getElem?_eq_getElem (by rw [HN.out]; exact hlt)⟩
      have hck := (hB.cell (p := ⟨b, off + k, none⟩) hb).trans (HCS.out k s hs)
      have hsk := (HOK.out s (List.mem_of_getElem? hs)).below hB
      have hds := pageDecode_any s wr hsk
      have HSN := Lib.hid (HST.out k s hs)
      have hmem : s.zs ∈ zss.take (k + 1) := by rw [HSN.out]; simp
      have hbk := HBD.out k hk HF.out
      have hsz := hB.size
      have HDS := Lib.hid hds
      have hno : pgFree s.zs = false → R = ([], 21) := fun hf => by
        have hg := HRR.out
        rw [if_neg (fun ha => by
          rw [List.all_eq_true] at ha
          have := ha s.zs (List.mem_of_mem_take hmem)
          rw [hf] at this
          cases this)] at hg
        exact hg
      have HNO := Lib.hid hno
      clear hs hsk hds hmem HA HCS hno
      go_wp2_with fail
      refine HDS.out.mono ?_
      rintro e w4 ⟨v4, rfl, hown4, hB4⟩
      have hB04 : Below w.heap.size w w4 := hB.trans (hB4.mono hB.size)
      have hs4 := hB04.size
      obtain ⟨A4, c4, rfl, hc4, hr4⟩ := own_slice hown4
      have hA4 : A4 = none → c4 = 0 := fun h => by
        subst h
        rcases hown4.2 with ⟨h, _⟩ | ⟨g, cap, cur, h, _⟩
        · injection h
        · cases h
      have HOW := Lib.hid hr4
      have HOO := Lib.hid (own_below HO.out hB4 (Nat.le_refl _))
      clear HDS hown4 hr4 HO
      rcases hp : pgIs s.zs with _ | _
      · have hf : pgFree s.zs = false := by unfold pgFree; rw [hp]; rfl
        have hR := HNO.out hf
        subst hR
        rw [pgAns_no hp] at *
        clear HNO HRR HOW
        go_wp2
        go_ret2
        exact ⟨_, rfl, own_none _ _ _, hB04⟩
      · rw [pgAns_ok hp] at *
        dsimp only at *
        by_cases hN : pgNext s.zs = 0
        · have hf : pgFree s.zs = true := by unfold pgFree; rw [hp, hN]; rfl
          have hgs := gl_snoc (zss.take k) s.zs
          rw [← HSN.out] at hgs
          have HGS := Lib.hid hgs
          have HFS : Hid (∀ z ∈ zss.take (k + 1), pgFree z = true) := fun z hz => by
            rw [HSN.out] at hz
            rcases List.mem_append.1 hz with hz | hz
            · exact HF.out z hz
            · simp at hz
              subst hz
              exact hf
          have hb1 := HBD.out (k + 1) (by omega) HFS.out
          rw [HGS.out, List.length_append] at hb1
          rw [hN]
          clear hgs hf HNO hN HF hp
          generalize pgCont s.zs = cs at *
          generalize gl (zss.take k) = os at *
          have HL : Hid ((octCells cs).length = cs.length) := octCells_length cs
          go_wp2_with (at_builtin; refine wpList_append_rd_wide (by rfl) _ _ 22 (by rfl) w.heap.size 5 i0 (.int .u8 0) 1 Try.underlying22 hi hz0 hz1 hz2 rfl u4 os.length (octCells os) (by rfl) HOO.out A4 cs.length c4 (octCells cs) (by rfl) HL.out HOW.out hA4 (octCells_one _) (by unfold maxLen; omega) (by omega) hs4 ?_; intro v6 w6 hown6 hgrow6)
          have hB6 : Below w.heap.size w w6 := hB04.grown hgrow6 hs4 (fun j e => (HOO.out.lt j e).1)
          have hcc : octCells os ++ octCells cs = octCells (os ++ cs) := by simp [octCells]
          have hll : os.length + cs.length = (os ++ cs).length := by simp
          rw [hcc, hll, ← HGS.out] at hown6
          have HO6 := Lib.hid hown6
          clear hown6 hgrow6 HOO HOW hcc hll HGS
          go_wp2_with fail
          go_roundw
          case rel => exact ⟨k + 1, by omega, by go_num, HO6, HFS, hB6⟩
          case measure => simp [intOf]; omega
        · have hf : pgFree s.zs = false := by unfold pgFree; rw [hp]; simpa using hN
          have hR := HNO.out hf
          subst hR
          have hN' : (pgNext s.zs != 0) = true := by simpa using hN
          clear HNO HRR HOW
          go_wp2
          go_ret2
          exact ⟨_, rfl, own_none _ _ _, hB04⟩
    · obtain rfl : k = n := by omega
      have ha : zss.all pgFree = true := by
        rw [List.all_eq_true]
        intro z hz
        exact HF.out z (by rw [HALL.out]; exact hz)
      have hg := HRR.out
      rw [if_pos ha] at hg
      have ho := HO.out
      rw [HALL.out] at ho
      have HO' := Lib.hid ho
      subst hg
      clear ho HO HF ha HRR
      obtain ⟨A2, c2, rfl, _, _⟩ := own_slice HO'.out
      go_wp2
      go_ret2
      exact ⟨_, rfl, HO'.out, hB⟩

end Go.Proofs.Ythelklgpabjfkaa
