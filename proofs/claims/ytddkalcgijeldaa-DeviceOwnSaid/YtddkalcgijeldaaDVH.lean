/-
  The closures that tell which writes are done, and settle with them. No conditions but that the device may be.
-/
import Derived.Test.YtddkalcgijeldaaDVG
namespace Go.Proofs.Ytddkalcgijeldaa
open Go.ChangeShapes Go.WideShapes Go.ChangeAt Go.RowKit Go.Shelf

theorem do1_any (k : Int) (x : Wt) (w : World) :
    Calls Try.prog 31 #[.int .i64 k, x.val] w fun e w' => e = .returned (.bool true) ∧ Below w.heap.size w w' := by
  have hB0 : Below w.heap.size w (w.alloc (.cells #[.int .i64 x.at_, .slice x.p.A x.p.zs.length x.p.c] 45)) := (Below.refl _ w).alloc (Nat.le_refl _) _
  go_enter Try.func31, Try.ntmps31
  go_wp2
  go_ret
  exact ⟨rfl, hB0⟩

/-- Is place k kept? -/
def keptB (bs : List Bool) (k : Nat) : Bool := bs[k]?.getD false
def bcl (bs : List Bool) : List Value := bs.map Value.bool
theorem bcl_at {bs : List Bool} {k : Nat} {b : Bool} (h : bs[k]? = some b) : (bcl bs)[k]? = some (.bool b) := by simp [bcl, h]

theorem crash1_any (Bk : Nat) (A : Option Addr) (bs : List Bool) (c : Nat) (k : Nat) (x : Wt) (w : World) (h0 : w.cell? ⟨Bk, 0, none⟩ = some (.slice A bs.length c)) (hr : Rd w A (bcl bs)) :
    Calls Try.prog 33 #[.int .i64 k, x.val, .pointer (some ⟨Bk, 0, none⟩)] w fun e w' => e = .returned (.bool (keptB bs k)) ∧ Below w.heap.size w w' := by
  have hB0 : Below w.heap.size w (w.alloc (.cells #[.int .i64 x.at_, .slice x.p.A x.p.zs.length x.p.c] 45)) := (Below.refl _ w).alloc (Nat.le_refl _) _
  have hbl := World.block_lt_of_cell? w ⟨Bk, 0, none⟩ h0
  by_cases hlt : k < bs.length
  · obtain ⟨b, hb⟩ : ∃ b, bs[k]? = some b := ⟨_, List.getElem?_eq_getElem hlt⟩
    have he : keptB bs k = b := by simp [keptB, hb]
    have hcb := bcl_at hb
    obtain ⟨b1, off, rfl, hb1, hc⟩ := hr (by intro h; rw [h] at hcb; simp at hcb)
    have hc1 := hc _ _ hcb
    rw [he]
    clear he hcb hb hc hr
    go_enter Try.func33, Try.ntmps33
    go_wp2
    go_ret
    exact ⟨rfl, hB0⟩
  · have he : keptB bs k = false := by simp [keptB, List.getElem?_eq_none (Nat.le_of_not_lt hlt)]
    rw [he]
    clear he hr
    go_enter Try.func33, Try.ntmps33
    go_wp2
    go_ret
    exact ⟨rfl, hB0⟩

theorem read1_any (Ba : Nat) (at_ : Int) (k : Int) (x : Wt) (w : World) (h0 : w.cell? ⟨Ba, 0, none⟩ = some (.int .i64 at_)) :
    Calls Try.prog 36 #[.int .i64 k, x.val, .pointer (some ⟨Ba, 0, none⟩)] w fun e w' => e = .returned (.bool (decide (x.at_ = at_))) ∧ Below w.heap.size w w' := by
  have hB0 : Below w.heap.size w (w.alloc (.cells #[.int .i64 x.at_, .slice x.p.A x.p.zs.length x.p.c] 45)) := (Below.refl _ w).alloc (Nat.le_refl _) _
  have hbl := World.block_lt_of_cell? w ⟨Ba, 0, none⟩ h0
  go_enter Try.func36, Try.ntmps36
  go_wp2
  go_ret
  exact ⟨rfl, hB0⟩

theorem sel_all : ∀ (ws : List Wt) (k : Nat), sel (fun _ _ => true) k ws = ws
  | [], _ => rfl
  | x :: xs, k => by simp [sel, sel_all xs]

theorem Dv.Own.settled {base lo hi : Nat} {w W' : World} {D : Dv} (hO : D.Own base lo hi w) {qs : List Pt} (hq : ptCells qs = ptCells D.ps) (hs : Secs lo hi W' qs) (hw : Out lo hi w.heap.size w W') : Dv.Own base lo hi W' ⟨D.A, qs, D.c, none, [], 0⟩ := by
  obtain ⟨⟨G, hA, hG, harr⟩, hbl, hlh, hsecs, hrow, hwait, hroom⟩ := hO
  have hl : qs.length = D.ps.length := by rw [← ptCells_length qs, hq, ptCells_length]
  refine ⟨⟨G, hA, hG, ?_⟩, hbl, hlh, hs, ⟨rfl, .inl ⟨rfl, rfl⟩⟩, fun x hx => by simp at hx, Nat.le_trans hroom hw.size⟩
  show W'.ownsRow base _ 1 (.slice D.A qs.length D.c) qs.length (ptCells qs)
  rw [hl, hq]
  exact own_stay harr fun b hb => by
    have h2 := harr.lt b hb
    have h3 : G = b := by rw [hA] at hb; simpa [Value.ownBlock] using hb
    exact hw.block b h2.2 (.inl (by omega))

/-- What settle answers where all is done. -/
theorem settle_all (D : Dv) (base lo hi : Nat) (w : World) (hO : D.Own base lo hi w) (hok : D.st.ok) (hm : D.ws.length ≤ 4398046511104) :
    Calls Try.prog 30 #[D.val, .func (.func 31) #[] #[]] w fun e W' => ∃ E : Dv, e = .returned E.val ∧ E.st = ⟨applyW D.st.secs D.st.waits, []⟩ ∧ E.Own base lo hi W' ∧ Out lo hi w.heap.size w W' := by
  have h := callsIn_wide.1 (settle_in D base lo hi 31 #[] (enters_of Try.func31 (by kernel_rfl) rfl) (fun _ _ => true) (fun _ => True) (fun _ _ _ _ => trivial) w hO hok hm
    (fun W _ k x _ => do1_any k x W) trivial)
  refine h.mono ?_
  rintro e W' ⟨qs, rfl, h1, h2, h3, h4⟩
  have hl : qs.length = D.ps.length := by rw [← ptCells_length qs, h1, ptCells_length]
  refine ⟨⟨D.A, qs, D.c, none, [], 0⟩, by simp only [Dv.val, hl, List.length_nil], ?_, hO.settled h1 h3 h4, h4⟩
  rw [sel_all] at h2
  simp only [Dv.st, h2, List.map_nil]

/-- Those that are kept. -/
def keptL {α : Type} (bs : List Bool) : Nat → List α → List α
  | _, [] => []
  | k, x :: xs => if keptB bs k then x :: keptL bs (k + 1) xs else keptL bs (k + 1) xs
theorem sel_kept (bs : List Bool) : ∀ (ws : List Wt) (k : Nat), (sel (fun k _ => keptB bs k) k ws).map Wt.st = keptL bs k (ws.map Wt.st)
  | [], _ => rfl
  | x :: xs, k => by
    have ih := sel_kept bs xs (k + 1)
    simp only [sel, keptL, List.map_cons]
    split
    · simp [ih]
    · exact ih

/-- What settle answers where those are done that are kept. -/
theorem settle_kept (D : Dv) (base lo hi : Nat) (w : World) (hO : D.Own base lo hi w) (hok : D.st.ok) (hm : D.ws.length ≤ 4398046511104) (Bk : Nat) (A : Option Addr) (bs : List Bool) (c : Nat) (hBk : Bk < lo) (h0 : w.cell? ⟨Bk, 0, none⟩ = some (.slice A bs.length c)) (hr : Rd w A (bcl bs)) (hA : bcl bs ≠ [] → ∀ a, A = some a → a.block < lo) :
    Calls Try.prog 30 #[D.val, .func (.func 33) #[] #[.pointer (some ⟨Bk, 0, none⟩)]] w fun e W' => ∃ E : Dv, e = .returned E.val ∧ E.st = ⟨applyW D.st.secs (keptL bs 0 D.st.waits), []⟩ ∧ E.Own base lo hi W' ∧ Out lo hi w.heap.size w W' := by
  have h := callsIn_wide.1 (settle_in D base lo hi 33 #[.pointer (some ⟨Bk, 0, none⟩)] (enters_of Try.func33 (by kernel_rfl) rfl) (fun k _ => keptB bs k)
    (fun W => W.cell? ⟨Bk, 0, none⟩ = some (.slice A bs.length c) ∧ Rd W A (bcl bs))
    (fun W W' hW hk => by
      obtain ⟨h1, h2⟩ := hW
      refine ⟨hk _ _ _ (.inl hBk) h1, fun hv => ?_⟩
      obtain ⟨b, off, e, hb, hc⟩ := h2 hv
      obtain ⟨u, hu⟩ : ∃ u, (bcl bs)[0]? = some u := ⟨_, List.getElem?_eq_getElem (List.length_pos_iff.2 hv)⟩
      exact ⟨b, off, e, World.block_lt_of_cell? W' ⟨b, _, none⟩ (hk _ _ _ (.inl (hA hv _ e)) (hc 0 u hu)), fun j u hu => hk _ _ _ (.inl (hA hv _ e)) (hc j u hu)⟩)
    w hO hok hm (fun W hW k x _ => crash1_any Bk A bs c k x W hW.1 hW.2) ⟨h0, hr⟩)
  refine h.mono ?_
  rintro e W' ⟨qs, rfl, h1, h2, h3, h4⟩
  have hl : qs.length = D.ps.length := by rw [← ptCells_length qs, h1, ptCells_length]
  refine ⟨⟨D.A, qs, D.c, none, [], 0⟩, by simp only [Dv.val, hl, List.length_nil], ?_, hO.settled h1 h3 h4, h4⟩
  rw [sel_kept] at h2
  simp only [Dv.st, h2, List.map_nil]

end Go.Proofs.Ytddkalcgijeldaa
