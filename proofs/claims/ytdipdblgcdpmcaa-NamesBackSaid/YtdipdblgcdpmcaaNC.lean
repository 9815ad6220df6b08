/-
  Canon: what it answers. Conditions: the text is at most as long as a text that comes in.
-/
import Derived.Test.YtdipdblgcdpmcaaNB
import Derived.Maps.AppendAt
namespace Go.Proofs.Ytdipdblgcdpmcaa
open Go.ChangeShapes Go.WideShapes Go.ChangeAt Go.RowKit

theorem low_int (c : UInt8) : ((low c).toNat : Int) = if 65 ≤ (c.toNat : Int) ∧ (c.toNat : Int) ≤ 90 then (c.toNat : Int) - 65 + 97 else c.toNat := by
  revert c
  refine fun c => (by decide +kernel : ∀ c : Fin 256, ((low ⟨⟨c⟩⟩).toNat : Int) = if 65 ≤ (((⟨⟨c⟩⟩ : UInt8).toNat : Nat) : Int) ∧ (((⟨⟨c⟩⟩ : UInt8).toNat : Nat) : Int) ≤ 90 then (((⟨⟨c⟩⟩ : UInt8).toNat : Nat) : Int) - 65 + 97 else ((⟨⟨c⟩⟩ : UInt8).toNat : Nat)) c.toFin

theorem ret_u8 {a b : Int} (h : a = b) : Ending.returned (.int .u8 a) = .returned (.int .u8 b) := by rw [h]

theorem low_any (c : UInt8) (w : World) :
    Calls Try.prog 24 #[.int .u8 (c.toNat : Int)] w fun e w' => e = .returned (.int .u8 ((low c).toNat : Int)) ∧ w = w' := by
  have HC := Lib.hid (low_int c)
  by_cases h1 : 65 ≤ (c.toNat : Int)
  · by_cases h2 : (c.toNat : Int) ≤ 90
    · go_enter Try.func24, Try.ntmps24
      go_wp2
      go_ret
      exact ⟨ret_u8 (by rw [HC.out, if_pos ⟨h1, h2⟩]; try omega), rfl⟩
    · go_enter Try.func24, Try.ntmps24
      go_wp2
      go_ret
      exact ⟨ret_u8 (by rw [HC.out, if_neg (by omega)]), rfl⟩
  · go_enter Try.func24, Try.ntmps24
    go_wp2
    go_ret
    exact ⟨ret_u8 (by rw [HC.out, if_neg (by omega)]), rfl⟩

theorem info5 : (Try.prog.info? 5).map (fun i => (i.zero, i.size, i.bytes)) = some (some (.int .u8 0), 1, 1) := by kernel_rfl

/-- Octets as numbers. -/
def ns (l : List UInt8) : List Int := l.map fun c => (c.toNat : Int)
theorem str_ns (l : List UInt8) : strOfNums (ns l) = ofL l := by
  simp only [strOfNums, ns, ofL, List.map_map]
  congr 2
  rw [List.map_congr_left (g := id), List.map_id]
  intro c _
  simp
theorem ns_length (l : List UInt8) : (ns l).length = l.length := by simp [ns]

/-- What is written after k rounds. -/
def lows (s : ByteArray) (k : Nat) : List UInt8 := ((bs s).take k).map low
theorem lows_snoc (s : ByteArray) (k : Nat) (h : k < s.size) : (ns (lows s k)).map (Value.int .u8) ++ [.int .u8 ((low s[k]).toNat : Int)] = (ns (lows s (k + 1))).map (Value.int .u8) := by
  have h' : k < (bs s).length := by rw [bs_length]; exact h
  unfold lows
  rw [List.take_succ_eq_append_getElem h']
  simp only [ns, List.map_append, List.map_cons, List.map_nil]
  rfl
theorem lows_length (s : ByteArray) (k : Nat) (h : k ≤ s.size) : (lows s k).length = k := by
  simp [lows, bs_length]
  omega

set_option maxHeartbeats 400000 in
theorem changed_any (s : ByteArray) (hl : s.size ≤ 140737488351232) (w : World) :
    Calls Try.prog 22 #[.string s, .func (.func 24) #[] #[]] w fun e w' => e = .returned (.string (ofL ((bs s).map low))) ∧ Below w.heap.size w w' := by
  obtain ⟨i0, hi, hz0, hz1, hz2⟩ := info_parts info5
  go_enter Try.func22, Try.ntmps22
  go_wp2_with (at_make; refine wpList_make_own _ rfl _ _ 44 rfl w.heap.size 5 i0 (.int .u8 0) 1 Try.underlying44 hi hz0 hz1 .i64 .i64 _ s.size rfl rfl (by omega) (by rw [hz2]; omega) (by unfold maxLen; omega) (Nat.le_refl _) ?_; intro w0 hown0 hgrow0)
  go_loopw [5, 12] (fun v i wr => ∃ k : Nat, k ≤ s.size ∧ i = .int .i64 k ∧ v = .slice (some ⟨w.heap.size, 0, none⟩) k s.size ∧ wr.ownsRow w.heap.size 5 1 (.slice (some ⟨w.heap.size, 0, none⟩) k s.size) k ((ns (lows s k)).map (Value.int .u8)) ∧ Below w.heap.size w wr) (fun _ i _ => s.size - (intOf i).toNat)
  case atStart =>
    exact ⟨0, Nat.zero_le _, rfl, rfl, hown0, (Below.refl _ w).grown hgrow0 (Nat.le_refl _) (fun _ h => by cases h)⟩
  case round =>
    obtain ⟨k, hk, rfl, rfl, hown, hB⟩ := hrel
    by_cases hlt : k < s.size
    · have HL := Lib.hid (lows_snoc s k hlt)
      go_wp2_with (first
        | (refine (low_any _ _).mono ?_; rintro e w' ⟨rfl, rfl⟩)
        | (at_builtin; refine wpList_append_fits _ rfl _ _ 44 rfl w.heap.size 5 i0 1 Try.underlying44 hi hz1 w.heap.size k s.size _ rfl (hown.alloc _) ⟨wr.heap.size, 0, none⟩ 1 1 [.int .u8 ((low s[k]).toNat : Int)] rfl rfl (cell_one_new _ _ _) (by simp [Value.oneCell']) (by omega) ?_; intro w1 hown1 hgrow1))
      rw [HL.out] at hown1
      have hB1 : Below w.heap.size w w1 := (hB.alloc hB.size _).grown hgrow1 (by have := hB.size; simp; omega) (fun j e => by cases e; exact Nat.le_refl _)
      go_roundw
      case rel => exact ⟨k + 1, by omega, by go_num, rfl, hown1, hB1⟩
      case measure => simp [intOf]; omega
    · obtain rfl : k = s.size := by omega
      have hR : RdB wr (some ⟨w.heap.size, 0, none⟩) (ns (lows s s.size)) := Rd.of_own hown
      have hcv := run_string_rd (P := Try.prog) wr 44 5 9 Try.underlying44 Try.underlying5 Try.underlying9 _ _ s.size hR
      rw [ns_length, lows_length s s.size (Nat.le_refl _), str_ns, show lows s s.size = (bs s).map low by unfold lows; rw [List.take_of_length_le (by rw [bs_length]; omega)]] at hcv
      go_wp2
      go_ret
      exact ⟨rfl, hB⟩

theorem canon_size {s : ByteArray} (hl : s.size ≤ 140737488351232) : (ofL (Lib.trimSuffix (bs s) [47])).size ≤ 140737488351232 := by
  rw [ofL_size]
  have := Lib.trimSuffix_le (bs s) [47]
  rw [bs_length] at this
  omega

theorem trim_any (s : ByteArray) (hl : s.size ≤ 140737488351232) (w : World) :
    Calls Try.prog 23 #[.string s, .string ⟨#[47]⟩] w fun e w' => e = .returned (.string (ofL (Lib.trimSuffix (bs s) [47]))) ∧ w = w' :=
  (Try.strings_TrimSuffix s ⟨#[47]⟩ w (by omega)).mono fun _ _ ⟨he, hw⟩ => ⟨he, hw.symm⟩

theorem canonL_length (l : List UInt8) : (canonL l).length ≤ l.length := by
  have := Lib.trimSuffix_le l [47]
  simpa [canonL] using this

theorem changed_canon (s : ByteArray) (hl : s.size ≤ 140737488351232) (w : World) :
    Calls Try.prog 22 #[.string (ofL (Lib.trimSuffix (bs s) [47])), .func (.func 24) #[] #[]] w fun e w' => e = .returned (.string (ofL (canonL (bs s)))) ∧ Below w.heap.size w w' := by
  have := changed_any (ofL (Lib.trimSuffix (bs s) [47])) (canon_size hl) w
  rwa [bs_ofL] at this

/-- What Path answers, decided. -/
theorem path_is (v : Bool) (s : ByteArray) (hv : isPath (bs s) = v) (hz : s.size ≤ 9223372036854775807) (w : World) :
    Calls Try.prog 7 #[.string s] w fun e w' => e = .returned (.bool v) ∧ Below w.heap.size w w' := by
  rw [← hv]
  exact path_any s hz w

theorem canon_yes (s : ByteArray) (hl : s.size ≤ 140737488351232) (hp : isPath (canonL (bs s)) = true) (w : World) :
    Calls Try.prog 12 #[.string s] w fun e w' => e = .returned (.tuple #[.string (ofL (canonL (bs s))), .int .i64 0]) ∧ Below w.heap.size w w' := by
  have hz : (ofL (canonL (bs s))).size ≤ 9223372036854775807 := by
    rw [ofL_size]
    have := canonL_length (bs s)
    rw [bs_length] at this
    omega
  have HP : Hid (isPath (bs (ofL (canonL (bs s)))) = true) := by
    show isPath (bs (ofL (canonL (bs s)))) = true
    rw [bs_ofL]
    exact hp
  clear hp
  go_enter Try.func12, Try.ntmps12
  go_wp2_with (first
    | (go_at_call 23; refine (trim_any _ hl _).mono ?_; rintro e w' ⟨rfl, rfl⟩)
    | (go_at_call 22; refine (changed_canon _ hl _).mono ?_; rintro e w1 ⟨rfl, hB1⟩)
    | (go_at_call 7; refine (path_is true _ HP.out hz _).mono ?_; rintro e w2 ⟨rfl, hB2⟩))
  go_ret2
  exact ⟨rfl, hB1.trans (hB2.mono hB1.size)⟩

theorem canon_no (s : ByteArray) (hl : s.size ≤ 140737488351232) (hp : isPath (canonL (bs s)) = false) (w : World) :
    Calls Try.prog 12 #[.string s] w fun e w' => e = .returned (.tuple #[.string ByteArray.empty, .int .i64 31]) ∧ Below w.heap.size w w' := by
  have hz : (ofL (canonL (bs s))).size ≤ 9223372036854775807 := by
    rw [ofL_size]
    have := canonL_length (bs s)
    rw [bs_length] at this
    omega
  have HP : Hid (isPath (bs (ofL (canonL (bs s)))) = false) := by
    show isPath (bs (ofL (canonL (bs s)))) = false
    rw [bs_ofL]
    exact hp
  clear hp
  go_enter Try.func12, Try.ntmps12
  go_wp2_with (first
    | (go_at_call 23; refine (trim_any _ hl _).mono ?_; rintro e w' ⟨rfl, rfl⟩)
    | (go_at_call 22; refine (changed_canon _ hl _).mono ?_; rintro e w1 ⟨rfl, hB1⟩)
    | (go_at_call 7; refine (path_is false _ HP.out hz _).mono ?_; rintro e w2 ⟨rfl, hB2⟩))
  go_ret2
  exact ⟨rfl, hB1.trans (hB2.mono hB1.size)⟩

end Go.Proofs.Ytdipdblgcdpmcaa
