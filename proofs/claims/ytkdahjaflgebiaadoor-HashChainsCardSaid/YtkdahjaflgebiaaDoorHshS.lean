/-
  Slices of strings; the chain text; Chain, and the reference's Text and Chain.
-/
import Derived.Test.YtkdahjaflgebiaaDoorHshG
import Derived.Lib.ItoaLen
import Derived.Deep.RegionHeld3
import Derived.SliceStrings
import Derived.Carry
namespace Go.Proofs.YtkdahjaflgebiaaDoor
open Go.RowKit Go.ChangeShapes Go.WideShapes

theorem cell_lt' {w : World} {p : Addr} {v : Value} (h : w.cell? p = some v) : p.block < w.heap.size := by
  rcases Nat.lt_or_ge p.block w.heap.size with k | k
  · exact k
  · unfold World.cell? at h
    rw [Array.getElem?_eq_none k] at h
    cases h
theorem Bel.cell' {w w' : World} (h : Bel w w') {p : Addr} {v : Value} (hc : w.cell? p = some v) : w'.cell? p = some v := (Below.cell (p := p) h (cell_lt' hc)).trans hc
theorem Bel.grow (w : World) (k : Nat) (os : Array Obj) : Bel w (Go.Sort.grow (w.drewN k) os) :=
  ⟨rfl, rfl, rfl, by show w.heap.size ≤ (w.heap ++ os).size; simp, fun i hi => by show (w.heap ++ os)[i]? = _; rw [Array.getElem?_append_left hi]⟩

/-- A slice of strings, as a walk reads it. -/
def SlArg (w : World) (o : Option Addr) (n : Nat) (xs : List ByteArray) : Prop := xs.length = n ∧ ∀ i (h : i < xs.length), ∃ a, o = some a ∧ w.cell? (a.add i) = some (.string xs[i])
theorem SlArg.on {w w' : World} {o : Option Addr} {n : Nat} {xs : List ByteArray} (h : SlArg w o n xs) (b : Bel w w') : SlArg w' o n xs :=
  ⟨h.1, fun i hi => let ⟨a, e, c⟩ := h.2 i hi; ⟨a, e, b.cell' c⟩⟩
theorem SlArg.nil (w : World) : SlArg w none 0 [] := ⟨rfl, fun i h => absurd h (Nat.not_lt_zero i)⟩
/-- An argument of type []string. -/
theorem strs_arg {H : Type} {enc : TypeId × Value → H} {W : World} {o : Option Addr} {n c : Nat} {d : DataW H} {ps : List MemPlace} {t : TypeId}
    (h : DataW.Trod enc Tryd.prog W 0 (fun _ => true) true t (.slice o n c) d ps) (_hlt : ∀ x ∈ ps, x.block < W.heap.size) (ht : Tryd.prog.underlying t = some (.slice 9)) :
    ∃ xs : List ByteArray, (SlArg W o n xs ∧ ∀ x ∈ xs, x.size ≤ maxLen) ∧ (n = 0 ∨ ∃ sp, d = .slice (strs xs) sp) ∧ n ≤ c ∧ c ≤ maxLen := by
  obtain ⟨fuel, hf⟩ := h
  rcases open_strings ht Tryd.underlying9 (by kernel_rfl) hf with ⟨hcs, hx⟩ | ⟨a, len', cap', ss, hcs, _, hl, hm, hz, hx, hcell, hws⟩
  · simp [Value.cells] at hcs
    obtain ⟨rfl, rfl, rfl⟩ := hcs
    exact ⟨[], ⟨SlArg.nil W, fun x h => by cases h⟩, Or.inl rfl, Nat.le_refl _, by decide⟩
  · simp [Value.cells] at hcs
    obtain ⟨rfl, rfl, rfl⟩ := hcs
    simp only [if_true] at hz
    simp only [Prod.mk.injEq] at hx
    refine ⟨ss.take n, ⟨⟨by simp; omega, fun i hi => ⟨a, rfl, ?_⟩⟩, fun x hx => hws x (List.mem_of_mem_take hx)⟩, Or.inr ⟨_, hx.1⟩, hl, hm⟩
    have hi' : i < n := by simp at hi; omega
    rw [hcell i (by omega)]
    simp [List.getD, List.getElem?_eq_getElem (show i < ss.length by omega)]
namespace Hsh

/-- One part of the chain text, and the text. -/
def part (x : ByteArray) : List UInt8 := Lib.itoa (x.size : Int) ++ 58 :: x.toList
def ctext (xs : List ByteArray) : List UInt8 := xs.flatMap part
theorem ctext_snoc (xs : List ByteArray) (k : Nat) (h : k < xs.length) : ctext (xs.take (k + 1)) = ctext (xs.take k) ++ part xs[k] := by
  unfold ctext
  rw [List.take_succ_eq_append_getElem h, List.flatMap_append]
  simp
/-- strconv.Itoa of a length. -/
theorem itoa_any (n : Nat) (X : ByteArray) (hX : Hid ((⟨(Lib.itoa (n : Int)).toArray⟩ : ByteArray) = X)) (hn : n ≤ 9223372036854775807) (W : World) (hL : Lad W) :
    Calls Tryd.prog 29 #[.int .i64 (n : Int)] W fun e w' => e = .returned (.string X) ∧ Bel W w' :=
  (Tryd.strconv_Itoa (n : Int) (by omega) (by omega) W hL.pow).mono fun _ _ ⟨he, k, os, hw⟩ => ⟨by rw [he, ← hX.out], hw ▸ Bel.grow W k os⟩
theorem itoa_len (n : Nat) (hn : n ≤ 9223372036854775807) : (⟨(Lib.itoa (n : Int)).toArray⟩ : ByteArray).size ≤ 21 := by
  show (Lib.itoa (n : Int)).toArray.size ≤ 21
  have := Lib.itoa_length_le (n : Int) (by omega) (by omega)
  simpa using this
theorem fold3 {α : Type} (f : α → UInt8 → α) (z : α) (l i c : List UInt8) (s : UInt8) : c.foldl f ([s].foldl f (i.foldl f (l.foldl f z))) = (l ++ (i ++ s :: c)).foldl f z := by simp
theorem foldl_part (z : Nat) (l : List UInt8) (x X : ByteArray) (hX : (⟨(Lib.itoa (x.size : Int)).toArray⟩ : ByteArray) = X) : x.toList.foldl fnvS ([58].foldl fnvS (X.toList.foldl fnvS (l.foldl fnvS z))) = (l ++ part x).foldl fnvS z := by
  have e : X.toList = Lib.itoa (x.size : Int) := by rw [← hX, tl]
  rw [e]
  exact fold3 fnvS z l _ _ 58
theorem len58 : (⟨#[58]⟩ : ByteArray).size ≤ maxLen := by decide
set_option maxHeartbeats 1000000 in
theorem chain_any (o : Option Addr) (n c : Nat) (xs : List ByteArray) (hn : n ≤ 4611686018427387904) (hx : ∀ x ∈ xs, x.size ≤ maxLen) (w : World) (hL : Lad w) (hA : SlArg w o n xs) :
    Calls Tryd.prog 15 #[.slice o n c] w fun e w' => e = .returned (.int .u64 (fnv (ctext xs) : Int)) ∧ Bel w w' := by
  have HA := Lib.hid hA
  have hlen := hA.1
  clear hA
  go_enter Tryd.func15, Tryd.ntmps15
  go_wp2
  go_loopw [3, 8] (fun h i wr => ∃ (a k : Nat), k ≤ n ∧ a < 18446744073709551616 ∧ h = .int .u64 (a : Int) ∧ i = .int .i64 (k : Int) ∧ Hid ((ctext (xs.take k)).foldl fnvS 14695981039346656037 = a) ∧ Hid (Bel w wr)) (fun _ i _ => n - (intOf i).toNat)
  case atStart => exact ⟨14695981039346656037, 0, Nat.zero_le _, by omega, rfl, rfl, Lib.hid rfl, Lib.hid (Bel.refl _)⟩
  case round =>
    obtain ⟨a, k, hk, ha, rfl, rfl, hr, hb⟩ := hrel
    rename World => W0
    by_cases hlt : k < n
    · have hkx : k < xs.length := by omega
      obtain ⟨p, rfl, hc⟩ := (HA.out.on hb.out).2 k hkx
      have hxs := hx xs[k] (List.getElem_mem hkx)
      have hn' := Lib.hid (ctext_snoc xs k hkx)
      obtain ⟨x, hxe⟩ : ∃ x, xs[k] = x := ⟨_, rfl⟩
      rw [hxe] at hc hxs hn'
      unfold maxLen at hxs
      obtain ⟨X, hX⟩ : ∃ X, (⟨(Lib.itoa (x.size : Int)).toArray⟩ : ByteArray) = X := ⟨_, rfl⟩
      have hXl : X.size ≤ maxLen := by rw [← hX]; have := itoa_len x.size hxs; unfold maxLen; omega
      have hI := Lib.hid (itoa_any x.size X (Lib.hid hX) hxs W0 (hL.on hb.out))
      have hf := Lib.hid ((foldl_part 14695981039346656037 (ctext (xs.take k)) x X hX).trans (by rw [← hn'.out]))
      rw [hr.out] at hf
      have h1 := Lib.hid (fun W => sumOn_any a ha X hXl W)
      have l1 := foldl_lt X.toList a ha
      obtain ⟨b, hbb⟩ : ∃ b, X.toList.foldl fnvS a = b := ⟨_, rfl⟩
      rw [hbb] at h1 l1 hf
      have h2 := Lib.hid (fun W => sumOn_any b l1 ⟨#[58]⟩ len58 W)
      have l2 := foldl_lt (⟨#[58]⟩ : ByteArray).toList b l1
      have e58 : (⟨#[58]⟩ : ByteArray).toList = [58] := tl [58]
      rw [e58] at h2 l2
      obtain ⟨d, hdd⟩ : ∃ d, [58].foldl fnvS b = d := ⟨_, rfl⟩
      rw [hdd] at h2 l2 hf
      have h3 := Lib.hid (fun W => sumOn_any d l2 x hxs W)
      have l3 := foldl_lt x.toList d l2
      obtain ⟨e, hee⟩ : ∃ e, x.toList.foldl fnvS d = e := ⟨_, rfl⟩
      rw [hee] at h3 l3 hf
      have Hb := hb
      clear hbb hdd hee e58 hX hxe hr hb
      go_wp2_with fail
      refine hI.out.mono ?_
      rintro e w1 ⟨rfl, g1⟩
      go_wp2_with fail
      refine (h1.out _).mono ?_
      rintro e w2 ⟨rfl, rfl⟩
      go_wp2_with fail
      refine (h2.out _).mono ?_
      rintro e w2 ⟨rfl, rfl⟩
      go_wp2_with fail
      refine (h3.out _).mono ?_
      rintro e w2 ⟨rfl, rfl⟩
      go_wp2_with fail
      go_round
      case rel => exact ⟨_, k + 1, by omega, l3, rfl, by go_num, Lib.hid hf.out.symm, Lib.hid (Bel.trans Hb.out g1)⟩
      case measure => simp [intOf]; omega
    · obtain rfl : k = n := by omega
      have hz : Hid (fnv (ctext xs) = a) := Lib.hid (by have := hr.out; rw [List.take_of_length_le (by omega)] at this; exact this)
      clear hr
      go_wp2
      go_ret
      exact ⟨by rw [hz.out]; rfl, hb.out⟩
theorem itoaS (n : Nat) (X : ByteArray) (hI : Hid (∀ W : World, Lad W → Calls Tryd.prog 29 #[.int .i64 (n : Int)] W fun e w' => e = .returned (.string X) ∧ Bel W w')) (w W : World) (hL : Hid (Lad w)) (p : Addr) (x : ByteArray) (hc : W.cell? p = some (.string x)) (g : Bel w W) :
    Calls Tryd.prog 29 #[.int .i64 (n : Int)] W fun e w' => e = .returned (.string X) ∧ w'.cell? p = some (.string x) ∧ Bel w w' :=
  (hI.out W (hL.out.on g)).mono fun _ _ ⟨he, k⟩ => ⟨he, k.cell' hc, Bel.trans g k⟩
theorem text_step (S X x : ByteArray) (l : List UInt8) (hS : S.data.toList = l) (hX : (⟨(Lib.itoa (x.size : Int)).toArray⟩ : ByteArray) = X) : (((S ++ X) ++ (⟨#[58]⟩ : ByteArray)) ++ x).data.toList = l ++ part x := by
  have e : X.data.toList = Lib.itoa (x.size : Int) := by rw [← hX]
  unfold part
  rw [toL]
  simp [ByteArray.data_append, hS, e]
theorem text_size {S X x : ByteArray} {k : Nat} (h1 : S.size ≤ 422 * k) (h2 : X.size ≤ 21) (h3 : x.size ≤ 400) : (((S ++ X) ++ (⟨#[58]⟩ : ByteArray)) ++ x).size ≤ 422 * (k + 1) := by
  have e : (⟨#[58]⟩ : ByteArray).size = 1 := rfl
  simp only [ByteArray.size_append, e]
  omega
set_option maxHeartbeats 2000000 in
theorem text_any (o : Option Addr) (n c : Nat) (xs : List ByteArray) (hn : n ≤ 70) (hx : ∀ x ∈ xs, x.size ≤ 400) (w : World) (hL : Lad w) (hA : SlArg w o n xs) :
    Calls Tryd.prog 27 #[.slice o n c] w fun e w' => (∃ S : ByteArray, S.data.toList = ctext xs ∧ S.size ≤ 29540 ∧ e = .returned (.string S)) ∧ Bel w w' := by
  have HA := Lib.hid hA
  have hlen := hA.1
  have HL := Lib.hid hL
  clear hA hL
  go_enter Tryd.func27, Tryd.ntmps27
  go_wp2
  go_loopw [3, 4] (fun s i wr => ∃ (S : ByteArray) (k : Nat), k ≤ n ∧ s = .string S ∧ i = .int .i64 (k : Int) ∧ S.size ≤ 422 * k ∧ Hid (S.data.toList = ctext (xs.take k)) ∧ Hid (Bel w wr)) (fun _ i _ => n - (intOf i).toNat)
  case atStart => exact ⟨_, 0, Nat.zero_le _, rfl, rfl, by decide, Lib.hid rfl, Lib.hid (Bel.refl _)⟩
  case round =>
    obtain ⟨S, k, hk, rfl, rfl, hSl, hr, hb⟩ := hrel
    rename World => W0
    by_cases hlt : k < n
    · have hkx : k < xs.length := by omega
      obtain ⟨p, rfl, hc⟩ := (HA.out.on hb.out).2 k hkx
      have hxs := hx xs[k] (List.getElem_mem hkx)
      have hn' := Lib.hid (ctext_snoc xs k hkx)
      obtain ⟨x, hxe⟩ : ∃ x, xs[k] = x := ⟨_, rfl⟩
      rw [hxe] at hc hxs hn'
      obtain ⟨X, hX⟩ : ∃ X, (⟨(Lib.itoa (x.size : Int)).toArray⟩ : ByteArray) = X := ⟨_, rfl⟩
      have hXl : X.size ≤ 21 := by rw [← hX]; exact itoa_len x.size (by omega)
      have hI := Lib.hid (fun W h => itoa_any x.size X (Lib.hid hX) (by omega) W h)
      have hT := Lib.hid ((text_step S X x _ hr.out hX).trans hn'.out.symm)
      have G := hb.out
      have c1 : (9223372036854775807 < S.size + X.size) = False := eq_false (by omega)
      have c2 : (9223372036854775807 < S.size + X.size + 1) = False := eq_false (by omega)
      have c3 : (9223372036854775807 < S.size + X.size + 1 + x.size) = False := eq_false (by omega)
      clear hX hxe hr hn' hb
      go_wp2_with fail
      go_region_held3 (fun w' => w'.cell? (p.add k) = some (.string x) ∧ Bel w w') (first | exact ⟨h1, h2⟩ | exact ⟨hc, Below.drew G⟩) (first | (go_at_call 29; (with_reducible refine (itoaS x.size X hI w _ HL (p.add k) x ?_ ?_).mono ?_); (first | assumption | exact hc); (first | assumption | exact Below.drew G); rintro e w' ⟨rfl, h1, h2⟩))
      all_goals
        clear c1 c2 c3
        go_wp2
        go_round
        case rel => exact ⟨_, k + 1, by omega, rfl, by go_num, text_size hSl hXl hxs, Lib.hid hT.out, Lib.hid h2⟩
        case measure => simp [intOf]; omega
    · obtain rfl : k = n := by omega
      have hz : S.data.toList = ctext xs := by have := hr.out; rw [List.take_of_length_le (by omega)] at this; exact this
      have HZ := Lib.hid hz
      clear hr hz
      go_wp2
      go_ret
      exact ⟨⟨S, HZ.out, by omega, rfl⟩, hb.out⟩
theorem rchain_core (o : Option Addr) (n c : Nat) (v : Nat) (w : World) (ht : Hid (Calls Tryd.prog 27 #[.slice o n c] w fun e w' => (∃ S : ByteArray, fnv S.toList = v ∧ S.size ≤ 29540 ∧ e = .returned (.string S)) ∧ Bel w w')) :
    Calls Tryd.prog 16 #[.slice o n c] w fun e w' => e = .returned (.int .u64 (v : Int)) ∧ Bel w w' := by
  go_enter Tryd.func16, Tryd.ntmps16
  go_wp2_with fail
  refine ht.out.mono ?_
  rintro e w1 ⟨⟨S, h1, h2, rfl⟩, g1⟩
  have hs := Lib.hid (rsum_any S (by unfold maxLen; omega))
  rw [h1] at hs
  clear h1 h2 ht
  go_wp2_with fail
  refine (hs.out _).mono ?_
  rintro e w2 ⟨rfl, rfl⟩
  go_wp2_with fail
  go_ret
  exact ⟨rfl, g1⟩
theorem rchain_any (o : Option Addr) (n c : Nat) (xs : List ByteArray) (hn : n ≤ 70) (hx : ∀ x ∈ xs, x.size ≤ 400) (w : World) (hL : Lad w) (hA : SlArg w o n xs) :
    Calls Tryd.prog 16 #[.slice o n c] w fun e w' => e = .returned (.int .u64 (fnv (ctext xs) : Int)) ∧ Bel w w' :=
  rchain_core o n c _ w (Lib.hid ((text_any o n c xs hn hx w hL hA).mono fun _ _ ⟨⟨S, h1, h2, he⟩, g⟩ => ⟨⟨S, by rw [toL, h1], h2, he⟩, g⟩))

/-- What the law's short answers. -/
def shortB (xs : List ByteArray) (m : Nat) : Bool := decide (xs.length ≤ m) && xs.all fun x => decide (x.size ≤ 200)
theorem shortB_true {xs : List ByteArray} {m : Nat} (h : shortB xs m = true) : xs.length ≤ m ∧ ∀ x ∈ xs, x.size ≤ 200 := by
  unfold shortB at h
  simpa using h
theorem short_any (o : Option Addr) (n c m : Nat) (xs : List ByteArray) (hn : n ≤ 4611686018427387904) (hm : m ≤ 100) (hx : ∀ x ∈ xs, x.size ≤ maxLen) (w : World) (hA : SlArg w o n xs) :
    Calls Tryd.prog 9 #[.slice o n c, .int .i64 (m : Int)] w fun e w' => e = .returned (.bool (shortB xs m)) ∧ w' = w := by
  have HA := Lib.hid hA
  have hlen := hA.1
  clear hA
  by_cases hb : n ≤ m
  · go_enter Tryd.func9, Tryd.ntmps9
    go_wp2
    go_loop [12] (fun i => ∃ k : Nat, k ≤ n ∧ i = .int .i64 (k : Int) ∧ Hid ((xs.take k).all (fun x => decide (x.size ≤ 200)) = true)) (fun i => n - (intOf i).toNat)
    case atStart => exact ⟨0, Nat.zero_le _, rfl, Lib.hid rfl⟩
    case round =>
      obtain ⟨k, hk, rfl, hr⟩ := hrel
      by_cases hlt : k < n
      · have hkx : k < xs.length := by omega
        obtain ⟨p, rfl, hc⟩ := HA.out.2 k hkx
        have hxs := hx xs[k] (List.getElem_mem hkx)
        have hmem := Lib.hid (List.getElem_mem hkx)
        have hst := Lib.hid (List.take_succ_eq_append_getElem hkx)
        obtain ⟨x, hxe⟩ : ∃ x, xs[k] = x := ⟨_, rfl⟩
        rw [hxe] at hc hxs hmem hst
        unfold maxLen at hxs
        clear hxe
        by_cases h2 : x.size ≤ 200
        · go_wp2
          go_round
          case rel => exact ⟨k + 1, by omega, by go_num, Lib.hid (by rw [hst.out, List.all_append, hr.out]; simpa using h2)⟩
          case measure => simp [intOf]; omega
        · have h2' : 200 < x.size := by omega
          have hf : Hid (shortB xs m = false) := Lib.hid (by
            unfold shortB
            rw [Bool.and_eq_false_iff]
            right
            rw [List.all_eq_false]
            exact ⟨x, hmem.out, by simpa using h2'⟩)
          clear h2
          go_wp2
          go_ret
          exact ⟨by rw [hf.out]; rfl, rfl⟩
      · obtain rfl : k = n := by omega
        have hf : Hid (shortB xs m = true) := Lib.hid (by
          have h := hr.out
          rw [List.take_of_length_le (by omega)] at h
          unfold shortB
          rw [h]
          simp
          omega)
        go_wp2
        go_ret
        exact ⟨by rw [hf.out]; rfl, rfl⟩
  · have hb' : m < n := by omega
    have hf : Hid (shortB xs m = false) := Lib.hid (by unfold shortB; rw [Bool.and_eq_false_iff]; left; simp; omega)
    clear hb
    go_enter Tryd.func9, Tryd.ntmps9
    go_wp2
    go_ret
    exact ⟨by rw [hf.out]; rfl, rfl⟩
end Hsh
end Go.Proofs.YtkdahjaflgebiaaDoor
