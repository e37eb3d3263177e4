/-
  strconv.FormatUint at base 16: the hexadecimal digits of a number.
-/
import Derived.Test.YtkdahjaflgebiaaDoorHshK
import Derived.Test.YtkdahjaflgebiaaDoorHshC
namespace Go.Proofs.YtkdahjaflgebiaaDoor
open Go.RowKit
namespace Hsh

theorem ispow16 (w : World) : Calls Tryd.prog 84 #[.int .i64 16] w fun e w' => e = .returned (.bool true) ∧ w' = w := by
  have e1 : bits BinOp.and IntKind.i64 16 15 = 0 := by decide +kernel
  go_enter Tryd.func84, Tryd.ntmps84
  go_wp2
  go_ret
  exact ⟨rfl, rfl⟩
theorem tz64_16 (w : World) (hT : w.cell? ⟨5, 15, none⟩ = some (.int .u8 4)) : Calls Tryd.prog 96 #[.int .u64 16] w fun e w' => e = .returned (.int .i64 4) ∧ w' = w := by
  have key : IntKind.u64.wrap (bits BinOp.and IntKind.u64 16 (IntKind.u64.wrap (-16)) * 285870213051353865) / 288230376151711744 = 15 := by decide +kernel
  go_enter Tryd.func96, Tryd.ntmps96
  go_wp2_with (simp only [key])
  go_ret
  exact ⟨rfl, rfl⟩
theorem tz_16 (w : World) (hT : w.cell? ⟨5, 15, none⟩ = some (.int .u8 4)) : Calls Tryd.prog 85 #[.int .u64 16] w fun e w' => e = .returned (.int .i64 4) ∧ w' = w := by
  go_enter Tryd.func85, Tryd.ntmps85
  go_wp2_with (go_at_call 96; refine (tz64_16 w hT).mono ?_; rintro e w' ⟨rfl, rfl⟩)
  go_ret
  exact ⟨rfl, rfl⟩

/-- The digit at a place counted from the right. -/
def hexAt (n p : Nat) : Nat := hexC (n / 16 ^ p % 16)
theorem hexF_cons : ∀ (k n : Nat), hexF (k + 1) n = UInt8.ofNat (hexAt n k) :: hexF k n
  | 0, n => by simp [hexF, hexAt]
  | k + 1, n => by
    rw [hexF, hexF_cons k (n / 16), hexF]
    have : hexAt (n / 16) k = hexAt n (k + 1) := by
      unfold hexAt
      rw [Nat.div_div_eq_div_mul, Nat.pow_succ, Nat.mul_comm 16]
    rw [this]
    rfl
theorem hexF_get : ∀ (k n j : Nat) (h : j < (hexF k n).length), (hexF k n)[j] = UInt8.ofNat (hexAt n (k - 1 - j))
  | 0, n, j, h => absurd h (by simp [hexF])
  | k + 1, n, j, h => by
    have e := hexF_cons k n
    cases j with
    | zero => simp only [e, List.getElem_cons_zero]; rfl
    | succ i =>
      have hi : i < (hexF k n).length := by rw [e] at h; simpa using h
      simp only [e, List.getElem_cons_succ]
      rw [hexF_get k n i hi]
      congr 2
      omega
theorem hexF_pad (n K : Nat) (h : n < 16 ^ K) : ∀ j, hexF (K + j) n = List.replicate j 48 ++ hexF K n
  | 0 => rfl
  | j + 1 => by
    rw [show K + (j + 1) = (K + j) + 1 by omega, hexF_cons, hexF_pad n K h j]
    have : n / 16 ^ (K + j) = 0 := Nat.div_eq_of_lt (Nat.lt_of_lt_of_le h (Nat.pow_le_pow_right (by omega) (by omega)))
    have e : hexAt n (K + j) = 48 := by unfold hexAt; rw [this]; rfl
    rw [e, List.replicate_succ]
    rfl
theorem hexC_lt (i : Nat) (h : i < 16) : hexC i < 256 := by unfold hexC; split <;> omega
theorem hexAt_lt (n p : Nat) : hexAt n p < 256 := hexC_lt _ (Nat.mod_lt _ (by omega))

def digits36 : ByteArray := ⟨#[48, 49, 50, 51, 52, 53, 54, 55, 56, 57, 97, 98, 99, 100, 101, 102, 103, 104, 105, 106, 107, 108, 109, 110, 111, 112, 113, 114, 115, 116, 117, 118, 119, 120, 121, 122]⟩
theorem digits36_get : ∀ i : Fin 16, (digits36[i.val]'(by have := i.isLt; show i.val < 36; omega)).toNat = hexC i.val := by decide +kernel
theorem idx36 (k : IntKind) (i : Nat) (h : i < 16) (w : World) : (Instr.index 9 (.string digits36) (.int k (i : Int))).run Tryd.prog w = .ok (.int .u8 (hexC i : Int)) w := by
  have hlt : i < digits36.size := by show i < 36; omega
  rw [run_index_string w 9 digits36 k _ Tryd.underlying9, dif_pos ⟨by omega, by omega⟩]
  have e : ((i : Int)).toNat = i := by omega
  have hg := digits36_get ⟨i, h⟩
  simp only [e]
  simp only at hg
  rw [hg]

theorem and15 (v : Nat) (h : v < 18446744073709551616) : bits BinOp.and IntKind.u64 (v : Int) 15 = ((v % 16 : Nat) : Int) := by
  have h1 := u64_and_nat v 15 h (by omega)
  have h2 : v &&& 15 = v % 16 := Nat.and_two_pow_sub_one_eq_mod (n := 4) v
  rw [h2] at h1
  exact h1
theorem hexAt_step {n v k : Nat} (h : v = n / 16 ^ k) : hexC (v % 16) = hexAt n k := by unfold hexAt; rw [h]
/-- What the array holds behind k digits: its last k places hold the last k digits. -/
def Wrote (n k B : Nat) (w : World) : Prop := ∀ j, 65 - k ≤ j → j < 65 → w.cell? ⟨B, j, none⟩ = some (.int .u8 (hexAt n (64 - j) : Int))
def Room (B : Nat) (w : World) : Prop := ∀ j, j < 65 → (∃ x, w.cell? ⟨B, j, none⟩ = some x) ∧ w.frozen? ⟨B, j, none⟩ = false
theorem Wrote.step {n k B m : Nat} {w : World} (h : Wrote n k B w) (hm : m + 1 + k = 65) {x : Value} (hx : w.cell? ⟨B, m, none⟩ = some x) (c : Int) (hc : c = (hexAt n k : Int)) : Wrote n (k + 1) B (w.setCell ⟨B, m, none⟩ (.int .u8 c)) := fun j h1 h2 => by
  by_cases e : j = m
  · subst e
    rw [World.cell?_setCell_same _ _ _ hx, hc]
    congr 4
    omega
  · rw [World.cell?_setCell_other _ _ _ _ (fun h => e (Addr.mk.inj h).2.1.symm)]
    exact h j (by omega) h2
theorem Room.step {B m : Nat} {w : World} (h : Room B w) (v : Value) {x : Value} (hx : w.cell? ⟨B, m, none⟩ = some x) : Room B (w.setCell ⟨B, m, none⟩ v) := fun j hj => by
  refine ⟨?_, by rw [World.frozen?_setCell]; exact (h j hj).2⟩
  by_cases e : j = m
  · subst e
    exact ⟨_, World.cell?_setCell_same _ _ _ hx⟩
  · obtain ⟨y, hy⟩ := (h j hj).1
    exact ⟨y, by rw [World.cell?_setCell_other _ _ _ _ (fun h => e (Addr.mk.inj h).2.1.symm)]; exact hy⟩
def zeros65 : Array Value := #[Value.int .u8 0, Value.int .u8 0, Value.int .u8 0, Value.int .u8 0, Value.int .u8 0, Value.int .u8 0, Value.int .u8 0, Value.int .u8 0, Value.int .u8 0, Value.int .u8 0, Value.int .u8 0, Value.int .u8 0, Value.int .u8 0, Value.int .u8 0, Value.int .u8 0, Value.int .u8 0, Value.int .u8 0, Value.int .u8 0, Value.int .u8 0, Value.int .u8 0, Value.int .u8 0, Value.int .u8 0, Value.int .u8 0, Value.int .u8 0, Value.int .u8 0, Value.int .u8 0, Value.int .u8 0, Value.int .u8 0, Value.int .u8 0, Value.int .u8 0, Value.int .u8 0, Value.int .u8 0, Value.int .u8 0, Value.int .u8 0, Value.int .u8 0, Value.int .u8 0, Value.int .u8 0, Value.int .u8 0, Value.int .u8 0, Value.int .u8 0, Value.int .u8 0, Value.int .u8 0, Value.int .u8 0, Value.int .u8 0, Value.int .u8 0, Value.int .u8 0, Value.int .u8 0, Value.int .u8 0, Value.int .u8 0, Value.int .u8 0, Value.int .u8 0, Value.int .u8 0, Value.int .u8 0, Value.int .u8 0, Value.int .u8 0, Value.int .u8 0, Value.int .u8 0, Value.int .u8 0, Value.int .u8 0, Value.int .u8 0, Value.int .u8 0, Value.int .u8 0, Value.int .u8 0, Value.int .u8 0, Value.int .u8 0]
theorem zeros65_at (i : Nat) (h : i < 65) : zeros65[i]? = some (.int .u8 0) := by
  have e : zeros65 = Array.replicate 65 (.int .u8 0) := rfl
  rw [e, Array.getElem?_replicate, if_pos h]
theorem room0 (w : World) (t : TypeId) : Room w.heap.size (w.alloc (.cells zeros65 t)) := fun j hj => ⟨⟨_, by rw [World.cell?_alloc_new]; exact zeros65_at j hj⟩, World.frozen?_alloc_new _ _ _ _⟩
theorem up15 {n v k : Nat} (hn : n < 18446744073709551616) (hv : v = n / 16 ^ k) (h : 16 ≤ v) (hk : k ≤ 15) : k < 15 := by
  rcases Nat.lt_or_ge k 15 with h1 | h1
  · exact h1
  · obtain rfl : k = 15 := by omega
    rw [show (16 : Nat) ^ 15 = 1152921504606846976 by decide] at hv
    omega
theorem end16 {n v k : Nat} (hv : v = n / 16 ^ k) (h : v < 16) : n < 16 ^ (k + 1) := by
  rw [Nat.pow_succ, Nat.mul_comm]
  exact (Nat.div_lt_iff_lt_mul (Nat.pow_pos (by omega))).1 (hv ▸ h) |> fun h => by rw [Nat.mul_comm] at h; rw [Nat.mul_comm]; exact h
theorem div16 {n v k : Nat} (hv : v = n / 16 ^ k) : v / 16 = n / 16 ^ (k + 1) := by rw [hv, Nat.div_div_eq_div_mul, Nat.pow_succ]
theorem wrote_text {n k B : Nat} {w : World} (hk : k ≤ 16) (h : Wrote n k B w) : ∀ j (hj : j < (hexF k n).length), w.cell? ((⟨B, 65 - k, none⟩ : Addr).add j) = some (.int .u8 ((hexF k n)[j].toNat : Int)) := fun j hj => by
  have hl : j < k := by rw [hexF_len] at hj; exact hj
  rw [Lib.add_plain, h (65 - k + j) (by omega) (by omega), hexF_get k n j hj, UInt8.toNat_ofNat', show 64 - (65 - k + j) = k - 1 - j by omega, Nat.mod_eq_of_lt (hexAt_lt _ _)]
set_option maxHeartbeats 2000000 in
set_option maxRecDepth 100000 in
theorem fbits_any (n : Nat) (hn : n < 18446744073709551616) (w : World) (hL : Lad w) :
    Calls Tryd.prog 58 #[.slice none 0 0, .int .u64 (n : Int), .int .i64 16, .bool false, .bool false] w fun e w' => (∃ K : Nat, K ≤ 16 ∧ n < 16 ^ K ∧ e = .returned (.tuple #[.slice none 0 0, .string ⟨(hexF K n).toArray⟩])) ∧ Bel w w' := by
  have hT : ∀ c t, (w.alloc (.cells c t)).cell? ⟨5, 15, none⟩ = some (.int .u8 4) := fun c t => ((Bel.refl w).alloc _).cell hL.tz
  clear hL
  have hRm := Lib.hid (room0 w 111)
  have hal : Tryd.prog.arrayLen 111 = 65 := by kernel_rfl
  go_enter Tryd.func58, Tryd.ntmps58
  go_name_bytes PM hPM
  clear hPM
  go_name_bytes SM hSM
  have eSM : SM = digits36 := by rw [← hSM]; decide +kernel
  subst eSM
  clear hSM
  go_wp2_with (first | (go_at_call 84; refine (ispow16 _).mono ?_; rintro e w' ⟨rfl, rfl⟩) | (go_at_call 85; refine (tz_16 _ (hT _ _)).mono ?_; rintro e w' ⟨rfl, rfl⟩))
  clear hT
  go_loopw [1, 13] (fun u i wr => ∃ (v k m : Nat), u = .int .u64 (v : Int) ∧ i = .int .i64 (m : Int) ∧ m + k = 65 ∧ k ≤ 15 ∧ Hid (v = n / 16 ^ k) ∧ v < 18446744073709551616 ∧ Hid (Wrote n k w.heap.size wr) ∧ Hid (Room w.heap.size wr) ∧ Hid (Bel w wr)) (fun u _ _ => (intOf u).toNat)
  case atStart => exact ⟨n, 0, 65, rfl, rfl, rfl, Nat.zero_le _, Lib.hid (by rw [Nat.pow_zero, Nat.div_one]), hn, Lib.hid (fun j h1 h2 => absurd h2 (by omega)), hRm, Lib.hid ((Bel.refl w).alloc _)⟩
  case round =>
    obtain ⟨v, k, m, rfl, rfl, hm, hk, hv, hvl, hw, hr, hb⟩ := hrel
    rename World => W0
    obtain ⟨m, rfl⟩ : ∃ q, m = q + 1 := ⟨m - 1, by omega⟩
    obtain ⟨x, hx⟩ := (hr.out m (by omega)).1
    have hf := (hr.out m (by omega)).2
    by_cases h16 : 16 ≤ v
    · have hk15 := up15 hn hv.out h16 hk
      obtain ⟨d, hd⟩ : ∃ d, v % 16 = d := ⟨_, rfl⟩
      have hd16 : d < 16 := by rw [← hd]; exact Nat.mod_lt _ (by omega)
      have e15 := and15 v hvl
      rw [hd] at e15
      obtain ⟨c, hc⟩ : ∃ c, hexC d = c := ⟨_, rfl⟩
      have hix := idx36 .u64 d hd16
      rw [hc] at hix
      have hw' := Lib.hid (hw.out.step (by omega) hx (c : Int) (by rw [← hc, ← hd, hexAt_step hv.out]))
      have hr' := Lib.hid (hr.out.step (.int .u8 (c : Int)) hx)
      have hv' := Lib.hid (div16 hv.out)
      have hb' := Lib.hid (hb.out.setCell (p := ⟨w.heap.size, m, none⟩) (Nat.le_refl _) (.int .u8 (c : Int)))
      clear hc hd hw hr hv hb hRm
      go_wp2
      go_round
      case rel => exact ⟨v / 16, k + 1, m, by simp, rfl, by omega, by omega, hv', by omega, hw', hr', hb'⟩
      case measure => simp [intOf]; omega
    · have hv16 : v < 16 := by omega
      obtain ⟨c, hc⟩ : ∃ c, hexC v = c := ⟨_, rfl⟩
      have hix := idx36 .u64 v hv16
      rw [hc] at hix
      have hw' := hw.out.step (by omega) hx (c : Int) (by rw [← hc, ← hexAt_step hv.out, Nat.mod_eq_of_lt hv16])
      have hb' := hb.out.setCell (p := ⟨w.heap.size, m, none⟩) (Nat.le_refl _) (.int .u8 (c : Int))
      have hK := Lib.hid (end16 hv.out hv16)
      have hmk : m = 65 - (k + 1) := by omega
      have hsl : ∀ W, (Instr.sliceAt 111 (.pointer (some ⟨w.heap.size, 0, none⟩)) (some (.int .i64 (m : Int))) none none).run Tryd.prog W = .ok (.slice (some ⟨w.heap.size, m, none⟩) (k + 1) (k + 1)) W := fun W => by
        rw [run_sliceAt_array_l W 111 ⟨w.heap.size, 0, none⟩ (by kernel_rfl) .i64 (m : Int) (by omega) (by rw [hal]; omega), hal]
        go_simp
        omega
      have hcv := run_convert_bytes_back (P := Tryd.prog) (W0.setCell ⟨w.heap.size, m, none⟩ (.int .u8 (c : Int))) 66 9 5 ⟨w.heap.size, m, none⟩ (k + 1) (hexF (k + 1) n) Tryd.underlying66 Tryd.underlying5 Tryd.underlying9 (by rw [hmk] at hw' ⊢; exact wrote_text (by omega) hw')
      rw [hexF_len] at hcv
      have Hb := Lib.hid hb'
      clear hc hw hr hv hb hRm hw' hb' hal hmk
      go_wp2
      go_ret2
      exact ⟨⟨k + 1, by omega, hK.out, rfl⟩, Hb.out⟩
theorem fuint_core (n : Nat) (w : World) (h : Hid (∀ W, Lad W → Calls Tryd.prog 58 #[.slice none 0 0, .int .u64 (n : Int), .int .i64 16, .bool false, .bool false] W fun e w' => (∃ K : Nat, K ≤ 16 ∧ n < 16 ^ K ∧ e = .returned (.tuple #[.slice none 0 0, .string ⟨(hexF K n).toArray⟩])) ∧ Bel W w')) (hL : Lad w) :
    Calls Tryd.prog 39 #[.int .u64 (n : Int), .int .i64 16] w fun e w' => (∃ K : Nat, K ≤ 16 ∧ n < 16 ^ K ∧ e = .returned (.string ⟨(hexF K n).toArray⟩)) ∧ Bel w w' := by
  go_enter Tryd.func39, Tryd.ntmps39
  go_wp2_with fail
  refine (h.out _ hL).mono ?_
  rintro e w1 ⟨⟨K, k1, k2, rfl⟩, g⟩
  have k2 := Lib.hid k2
  go_wp2_with fail
  go_ret
  exact ⟨⟨K, k1, k2.out, rfl⟩, g⟩
theorem fuintp_core (n : Nat) (w : World) (h : Hid (∀ W, Lad W → Calls Tryd.prog 39 #[.int .u64 (n : Int), .int .i64 16] W fun e w' => (∃ K : Nat, K ≤ 16 ∧ n < 16 ^ K ∧ e = .returned (.string ⟨(hexF K n).toArray⟩)) ∧ Bel W w')) (hL : Lad w) :
    Calls Tryd.prog 30 #[.int .u64 (n : Int), .int .i64 16] w fun e w' => (∃ K : Nat, K ≤ 16 ∧ n < 16 ^ K ∧ e = .returned (.string ⟨(hexF K n).toArray⟩)) ∧ Bel w w' := by
  go_enter Tryd.func30, Tryd.ntmps30
  go_wp2_with fail
  refine (h.out _ hL).mono ?_
  rintro e w1 ⟨⟨K, k1, k2, rfl⟩, g⟩
  have k2 := Lib.hid k2
  go_wp2_with fail
  go_ret
  exact ⟨⟨K, k1, k2.out, rfl⟩, g⟩
/-- strconv.FormatUint at base 16: the last K hexadecimal digits, and there are no others. -/
theorem fuint_any (n : Nat) (hn : n < 18446744073709551616) (w : World) (hL : Lad w) :
    Calls Tryd.prog 30 #[.int .u64 (n : Int), .int .i64 16] w fun e w' => (∃ K : Nat, K ≤ 16 ∧ n < 16 ^ K ∧ e = .returned (.string ⟨(hexF K n).toArray⟩)) ∧ Bel w w' :=
  fuintp_core n w (Lib.hid fun W h => fuint_core n W (Lib.hid fun W h => fbits_any n hn W h) h) hL

/-- strings.HasPrefix of a text of at least one byte, and one byte. -/
theorem hpre (x : ByteArray) (t : ByteArray) (b : Bool) (h1 : 1 ≤ x.size) (ht : t.size = 1) (hb : ((x.extract 0 1).toList == t.toList) = b) (w : World) :
    Calls Tryd.prog 61 #[.string x, .string t] w fun e w' => e = .returned (.bool b) ∧ w' = w := by
  have Hb := Lib.hid hb
  clear hb
  go_enter Tryd.func61, Tryd.ntmps61
  go_wp2
  go_ret
  exact ⟨by rw [← Hb.out]; rfl, rfl⟩
theorem hprefix (x : ByteArray) (t : ByteArray) (b : Bool) (h1 : 1 ≤ x.size) (ht : t.size = 1) (hb : ((x.extract 0 1).toList == t.toList) = b) (w : World) :
    Calls Tryd.prog 41 #[.string x, .string t] w fun e w' => e = .returned (.bool b) ∧ w' = w := by
  have hc := Lib.hid (hpre x t b h1 ht hb)
  clear hb h1 ht
  go_enter Tryd.func41, Tryd.ntmps41
  go_wp2_with fail
  refine (hc.out _).mono ?_
  rintro e w1 ⟨rfl, rfl⟩
  go_wp2_with fail
  go_ret
  exact ⟨rfl, rfl⟩
theorem and32 (c : Nat) (h : c < 4294967296) : bits BinOp.and IntKind.u64 (c : Int) 4294967295 = (c : Int) := by
  have h1 := u64_and_nat c 4294967295 (by omega) (by omega)
  have h2 : c &&& 4294967295 = c % 4294967296 := Nat.and_two_pow_sub_one_eq_mod (n := 32) c
  rw [h2, Nat.mod_eq_of_lt h] at h1
  exact h1
theorem mul64_1 (c : Nat) (hc : c ≤ 16) (w : World) : Calls Tryd.prog 60 #[.int .u64 1, .int .u64 (c : Int)] w fun e w' => e = .returned (.tuple #[.int .u64 0, .int .u64 (c : Int)]) ∧ w' = w := by
  have e1 : bits BinOp.and IntKind.u64 1 4294967295 = 1 := by decide +kernel
  have e0 : bits BinOp.and IntKind.u64 0 4294967295 = 0 := by decide +kernel
  have ec := and32 c (by omega)
  have d1 : (c : Int) / 4294967296 = 0 := by omega
  go_enter Tryd.func60, Tryd.ntmps60
  go_wp2
  go_ret2
  exact ⟨rfl, rfl⟩
theorem mul_1 (c : Nat) (hc : c ≤ 16) (w : World) : Calls Tryd.prog 40 #[.int .u64 1, .int .u64 (c : Int)] w fun e w' => e = .returned (.tuple #[.int .u64 0, .int .u64 (c : Int)]) ∧ w' = w := by
  have h := Lib.hid (mul64_1 c hc)
  go_enter Tryd.func40, Tryd.ntmps40
  go_wp2_with fail
  refine (h.out _).mono ?_
  rintro e w1 ⟨rfl, rfl⟩
  go_wp2_with fail
  go_ret2
  exact ⟨rfl, rfl⟩
def z64 : ByteArray := ⟨#[48, 48, 48, 48, 48, 48, 48, 48, 48, 48, 48, 48, 48, 48, 48, 48, 48, 48, 48, 48, 48, 48, 48, 48, 48, 48, 48, 48, 48, 48, 48, 48, 48, 48, 48, 48, 48, 48, 48, 48, 48, 48, 48, 48, 48, 48, 48, 48, 48, 48, 48, 48, 48, 48, 48, 48, 48, 48, 48, 48, 48, 48, 48, 48]⟩
theorem z64_ext : ∀ c : Fin 17, z64.extract 0 c.val = ⟨(List.replicate c.val (48 : UInt8)).toArray⟩ := by decide +kernel
set_option maxHeartbeats 4000000 in
set_option maxRecDepth 100000 in
theorem rep_any (c : Nat) (hc : c ≤ 16) (w : World) : Calls Tryd.prog 31 #[.string ⟨#[48]⟩, .int .i64 (c : Int)] w fun e w' => e = .returned (.string ⟨(List.replicate c (48 : UInt8)).toArray⟩) ∧ w' = w := by
  by_cases h0 : c = 0
  · subst h0
    go_enter Tryd.func31, Tryd.ntmps31
    go_wp2_with fail
    go_ret
    exact ⟨rfl, rfl⟩
  · by_cases h1 : c = 1
    · subst h1
      go_enter Tryd.func31, Tryd.ntmps31
      go_wp2_with fail
      go_ret
      exact ⟨rfl, rfl⟩
    · have hc2 : 2 ≤ c := by omega
      have hm := Lib.hid (mul_1 c hc)
      clear h0 h1
      go_enter Tryd.func31, Tryd.ntmps31
      go_wp2_with (first | (go_at_call 40; refine (hm.out _).mono ?_; rintro e w1 ⟨rfl, rfl⟩) | (go_at_call 41; refine (hprefix _ _ false (by decide) rfl (by decide +kernel) _).mono ?_; rintro e w1 ⟨rfl, rfl⟩) | (go_at_call 41; refine (hprefix _ _ true (by decide) rfl (by decide +kernel) _).mono ?_; rintro e w1 ⟨rfl, rfl⟩))
      go_ret
      exact ⟨congrArg (fun x => Ending.returned (Value.string x)) (z64_ext ⟨c, by omega⟩), rfl⟩
end Hsh
end Go.Proofs.YtkdahjaflgebiaaDoor
