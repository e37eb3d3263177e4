/-
  Layer 4: total and same; what the functions of the layer say; the reference says so.
-/
import Derived.Test.YtkecellbbfhpoaaFrmG
import Derived.SizedLaws
namespace Go.Proofs.Ytkecellbbfhpoaa
open Go.RowKit Go.ChangeShapes Go.WideShapes
/-- Each string of a slice that is read takes less than 2^47 bytes. -/
theorem sized_strs {H : Type} {P : Program} {ts : List TypeId} {ds : List (DataW H)} (h : (DataW.weightsEach P ts ds).all (· ≤ reachBytes) = true) {j : Nat} {t e : TypeId} {xs : List ByteArray} {sp : List (DataW H)} (ht : ts[j]? = some t) (hd : ds[j]? = some (.slice (strs xs) sp))
    (hu : P.underlying t = some (.slice e)) : ∀ x ∈ xs, x.size ≤ 140737488355328 := fun x hx => by
  have all : ∀ l : List ByteArray, x ∈ l → x.data.toList.length ∈ DataW.weightsAll P e (strs l : List (DataW H)) := by
    intro l
    induction l with
    | nil => intro h; cases h
    | cons y r ih =>
      intro h
      simp only [strs, List.map_cons, DataW.weightsAll, DataW.weights, List.mem_append, List.mem_singleton]
      rcases List.mem_cons.1 h with rfl | h
      · exact Or.inl rfl
      · exact Or.inr (ih h)
  have hm := DataW.weights_mem_each (P := P) ht hd x.data.toList.length (by
    simp only [DataW.weights, hu, List.mem_cons, List.mem_append]
    exact Or.inr (Or.inl (all xs hx)))
  have h1 := List.all_eq_true.1 h _ hm
  have h2 := reachBytes_lt
  have h3 : x.data.toList.length = x.size := Array.length_toList
  have h4 : (2 : Nat) ^ 47 = 140737488355328 := by decide
  simp only [decide_eq_true_eq] at h1
  omega
namespace Frm
open Hsh

/-- What total adds up. -/
def tot (n : Nat) (xs : List ByteArray) : Nat := xs.foldl (fun m x => min (m + x.size) 1000000) n
theorem tot_snoc (n k : Nat) (xs : List ByteArray) (h : k < xs.length) : tot n (xs.take (k + 1)) = min (tot n (xs.take k) + xs[k].size) 1000000 := by
  unfold tot
  rw [List.take_succ_eq_append_getElem h, List.foldl_append]
  rfl
theorem tot_le : ∀ (xs : List ByteArray) (n : Nat), tot n xs ≤ 20000 → n + (xs.map ByteArray.size).sum ≤ 20000
  | [], n, h => by simpa [tot] using h
  | x :: r, n, h => by
    have e : tot n (x :: r) = tot (min (n + x.size) 1000000) r := rfl
    rw [e] at h
    have := tot_le r _ h
    simp only [List.map_cons, List.sum_cons]
    omega
theorem sum_mem {xs : List ByteArray} {x : ByteArray} (h : x ∈ xs) : x.size ≤ (xs.map ByteArray.size).sum := by
  induction xs with
  | nil => cases h
  | cons y r ih =>
    simp only [List.map_cons, List.sum_cons]
    rcases List.mem_cons.1 h with rfl | h
    · omega
    · have := ih h
      omega
set_option maxHeartbeats 4000000 in
theorem total_any (o : Option Addr) (n c : Nat) (xs : List ByteArray) (hn : n ≤ 4611686018427387904) (hx : ∀ x ∈ xs, x.size ≤ 140737488355328) (w : World) (hA : SlArg w o n xs) :
    Calls Try.prog 9 #[.slice o n c] w fun e w' => e = .returned (.int .i64 (tot n xs : Int)) ∧ Bel w w' := by
  have hlen := hA.1
  have HA := Lib.hid hA
  have HX := Lib.hid hx
  clear hA hx
  go_enter Try.func9, Try.ntmps9
  go_wp2
  go_loopw [3, 9] (fun t i wr => ∃ (k T : Nat), t = .int .i64 (T : Int) ∧ i = .int .i64 (k : Int) ∧ k ≤ n ∧ T ≤ 4611686018427387904 ∧ Hid (tot n (xs.take k) = T) ∧ Hid (Bel w wr)) (fun _ i _ => n - (intOf i).toNat)
  case atStart => exact ⟨0, n, rfl, rfl, Nat.zero_le _, hn, Lib.hid rfl, Lib.hid (Bel.refl _)⟩
  case round =>
    obtain ⟨k, T, rfl, rfl, hk, hT, hTl, hb⟩ := hrel
    rename World => W0
    by_cases hlt : k < n
    · have hkx : k < xs.length := by omega
      obtain ⟨p, rfl, hc0⟩ := HA.out.2 k hkx
      have hc := hb.out.cell' hc0
      have hl := tot_snoc n k xs hkx
      have hxs := HX.out xs[k] (List.getElem_mem hkx)
      rw [hTl.out] at hl
      obtain ⟨x, hxe⟩ : ∃ x, xs[k] = x := ⟨_, rfl⟩
      rw [hxe] at hc hl hxs
      have a1 : IntKind.i64.wrap ((T : Int) + (x.size : Int)) = (T : Int) + (x.size : Int) := by rw [IntKind.wrap_i64]; omega
      have hl' := Lib.hid hl
      clear hl hxe hc0 hTl
      go_wp2
      go_round
      case rel => exact ⟨k + 1, min (T + x.size) 1000000, by congr 1; split <;> omega, by go_num, by omega, by omega, hl', hb⟩
      case measure => simp [intOf]; omega
    · obtain rfl : k = n := by omega
      have hz := hTl.out
      rw [List.take_of_length_le (by omega)] at hz
      have hz' := Lib.hid hz
      clear hz hTl
      go_wp2
      go_ret
      exact ⟨by rw [hz'.out]; rfl, hb.out⟩
theorem lists_inj {xs ys : List ByteArray} (h : lists xs = lists ys) : xs = ys := by
  induction xs generalizing ys with
  | nil => cases ys with
    | nil => rfl
    | cons _ _ => cases h
  | cons x r ih => cases ys with
    | nil => cases h
    | cons y t =>
      simp only [lists, List.map_cons, List.cons.injEq] at h
      rw [ih (ys := t) h.2]
      congr 1
      have h1 := h.1
      rw [toL, toL] at h1
      exact ByteArray.ext (Array.toList_inj.1 h1)
set_option maxHeartbeats 4000000 in
theorem same_any (o q : Option Addr) (n m c d : Nat) (xs ys : List ByteArray) (w : World) (hA : SlArg w o n xs) (hB : SlArg w q m ys) (hn : n ≤ maxLen) (hm : m ≤ maxLen) :
    Calls Try.prog 15 #[.slice o n c, .slice q m d] w fun e w' => (∃ b : Bool, (b = true ↔ xs = ys) ∧ e = .returned (.bool b)) ∧ Bel w w' := by
  have hlx := hA.1
  have hly := hB.1
  have HA := Lib.hid hA
  have HB := Lib.hid hB
  unfold maxLen at hn hm
  clear hA hB
  by_cases hnm : n = m
  · subst hnm
    go_enter Try.func15, Try.ntmps15
    go_wp2
    go_loopw [13] (fun j wr => ∃ k : Nat, k ≤ n ∧ j = .int .i64 (k : Int) ∧ Hid (xs.take k = ys.take k) ∧ Hid (Bel w wr)) (fun j _ => n - (intOf j).toNat)
    case atStart => exact ⟨0, Nat.zero_le _, rfl, Lib.hid rfl, Lib.hid (Bel.refl _)⟩
    case round =>
      obtain ⟨k, hk, rfl, hs, hb⟩ := hrel
      rename World => W0
      by_cases hlt : k < n
      · have hkx : k < xs.length := by omega
        have hky : k < ys.length := by omega
        obtain ⟨a, rfl, hc⟩ := (HA.out.on hb.out).2 k hkx
        obtain ⟨b, rfl, hd⟩ := (HB.out.on hb.out).2 k hky
        have hst : Hid (xs[k] = ys[k] → xs.take (k + 1) = ys.take (k + 1)) := Lib.hid (fun h => by rw [List.take_succ_eq_append_getElem hkx, List.take_succ_eq_append_getElem hky, hs.out, h])
        have hne : Hid (xs[k] ≠ ys[k] → xs ≠ ys) := Lib.hid (fun h e => h (by subst e; rfl))
        obtain ⟨x, hxe⟩ : ∃ x, xs[k] = x := ⟨_, rfl⟩
        obtain ⟨y, hye⟩ : ∃ y, ys[k] = y := ⟨_, rfl⟩
        rw [hxe] at hc hst hne
        rw [hye] at hd hst hne
        have i1 : (k : Int) < (n : Int) := by omega
        have G := hb.out
        clear hb hxe hye hs
        go_upto_region 6 with (fail)
        go_quiet (fail)
        clear i1
        have GG := Lib.hid (Bel.drewN G nq)
        clear G
        generalize hq : (x.toList == y.toList) = t
        cases t
        · have hz := Lib.hid (hne.out (fun h => by rw [h] at hq; simp at hq))
          clear hq hst hne
          go_wp2_with fail
          go_ret
          exact ⟨⟨false, ⟨fun h => (by cases h), fun h => absurd h hz.out⟩, rfl⟩, GG.out⟩
        · have hxy : x = y := by
            rw [beq_iff_eq, toL, toL] at hq
            exact ByteArray.ext (Array.toList_inj.1 hq)
          have hz := Lib.hid (hst.out hxy)
          clear hq hxy hst hne
          go_wp2_with fail
          go_round
          case rel => exact ⟨k + 1, by omega, by go_num, hz, GG⟩
          case measure => simp [intOf]; omega
      · obtain rfl : k = n := by omega
        have he := hs.out
        rw [List.take_of_length_le (by omega), List.take_of_length_le (by omega)] at he
        have he' := Lib.hid he
        clear he hs
        go_wp2
        go_ret
        exact ⟨⟨true, ⟨fun _ => he'.out, fun _ => rfl⟩, rfl⟩, hb.out⟩
  · have hne : Hid (xs ≠ ys) := Lib.hid (fun h => hnm (by rw [← hlx, ← hly, h]))
    have hnm' : ((n : Int) = (m : Int)) = False := eq_false (by omega)
    go_enter Try.func15, Try.ntmps15
    go_wp2
    go_ret
    exact ⟨⟨false, ⟨fun h => (by cases h), fun h => absurd h hne.out⟩, rfl⟩, Bel.refl _⟩
end Frm
end Go.Proofs.Ytkecellbbfhpoaa
