/-
  Slices of slices of cells as arguments of a law; names, all.
-/
import Derived.Test.YtegfcmnbljdcpaaGreatDoorVdC
import Derived.Test.YtegfcmnbljdcpaaGreatDoorMC
namespace Go.Proofs.YtegfcmnbljdcpaaGreatDoor
open Go.RowKit Go.ChangeShapes Go.WideShapes Go.Deep
namespace Val

theorem sized_lists {H : Type} {ts : List TypeId} {ds : List (DataW H)} (h : (DataW.weightsEach Tryz.prog ts ds).all (· ≤ reachBytes) = true) {j : Nat} {t : TypeId} {es sp : List (DataW H)} (ht : ts[j]? = some t) (hd : ds[j]? = some (.slice es sp))
    (hu : Tryz.prog.underlying t = some (.slice 22)) : ∀ x ∈ es, ∀ (l : List Cel) (sp' : List (DataW H)), x = DataW.slice (l.map celD) sp' → ∀ c ∈ l, c.s.length ≤ 140737488355328 := fun x hx l sp' hxl c hc => by
  have one : c.s.length ∈ (celD c : DataW H).weights Tryz.prog 43 := by
    unfold celD
    simp only [DataW.weights, Tryz.underlying43]
    simp [DataW.weightsEach, DataW.weights]
  have all : ∀ l : List Cel, c ∈ l → c.s.length ∈ DataW.weightsAll Tryz.prog 43 (l.map celD : List (DataW H)) := by
    intro l
    induction l with
    | nil => intro h; cases h
    | cons y r ih =>
      intro h
      rw [List.map_cons, DataW.weightsAll, List.mem_append]
      rcases List.mem_cons.1 h with rfl | h
      · exact Or.inl one
      · exact Or.inr (ih h)
  have hin : c.s.length ∈ x.weights Tryz.prog 22 := by
    rw [hxl]
    simp only [DataW.weights, Tryz.underlying22, List.mem_cons, List.mem_append]
    exact Or.inr (Or.inl (all l hc))
  have all2 : ∀ es : List (DataW H), x ∈ es → c.s.length ∈ DataW.weightsAll Tryz.prog 22 es := by
    intro es
    induction es with
    | nil => intro h; cases h
    | cons y r ih =>
      intro h
      rw [DataW.weightsAll, List.mem_append]
      rcases List.mem_cons.1 h with rfl | h
      · exact Or.inl hin
      · exact Or.inr (ih h)
  have hm := DataW.weights_mem_each (P := Tryz.prog) ht hd c.s.length (by
    simp only [DataW.weights, hu, List.mem_cons, List.mem_append]
    exact Or.inr (Or.inl (all2 es hx)))
  have h1 := List.all_eq_true.1 h _ hm
  have h2 := reachBytes_lt
  have h4 : (2 : Nat) ^ 47 = 140737488355328 := by decide
  simp only [decide_eq_true_eq] at h1
  omega
theorem cell_of1 {w : World} {a : Addr} {v : Value} (h : w.cells? 0 a 1 = some [v]) : w.cell? a = some v := by
  obtain ⟨-, -, hat⟩ := World.cells?_some h
  have := hat 0 (by omega)
  have e : a.add 0 = a := by unfold Addr.add; simp
  rw [e] at this
  exact this
set_option maxRecDepth 100000 in
theorem lists_arg {H : Type} {enc : TypeId × Value → H} {W : World} {o : Option Addr} {n c : Nat} {d : DataW H} {ps : List MemPlace} {t : TypeId}
    (h : DataW.Trod enc Tryz.prog W 0 (fun _ => true) true t (.slice o n c) d ps) (ht : Tryz.prog.underlying t = some (.slice 22))
    (hz : ∀ es sp, d = .slice es sp → ((es.length + sp.length) * Tryz.prog.bytesOf 22 ≤ reachBytes ∧ ∀ x ∈ es, ∀ (l : List Cel) (sp' : List (DataW H)), x = DataW.slice (l.map celD) sp' → ∀ c ∈ l, c.s.length ≤ 140737488355328)) :
    ∃ ls : List (List Cel), LArg W o n ls ∧ n ≤ 4611686018427387904 := by
  have hc1 : Tryz.prog.cellsOf 22 = 1 := by kernel_rfl
  have hb24 : Tryz.prog.bytesOf 22 = 24 := by kernel_rfl
  obtain ⟨fuel, hf⟩ := h
  rcases open_slice ht hf with ⟨hcs, hx⟩ | ⟨a, len, cap, m, n', D, Pl, hcs, hb, hl, hm, hmm, hx, hi⟩
  · simp [Value.cells] at hcs
    obtain ⟨rfl, rfl, rfl⟩ := hcs
    exact ⟨[], LArg.nil W none, by omega⟩
  · simp [Value.cells] at hcs
    obtain ⟨rfl, rfl, rfl⟩ := hcs
    simp only [if_true] at hmm
    simp only [Prod.mk.injEq] at hx
    obtain ⟨hs1, hs2⟩ := hz _ _ hx.1
    have hle : n ≤ 4611686018427387904 := by
      have h2 := reachBytes_lt
      have h4 : (2 : Nat) ^ 47 = 140737488355328 := by decide
      rw [hb24] at hs1
      simp only [List.length_map, List.length_range] at hs1
      omega
    have each : ∀ i, i < n → ∃ (l : List Cel) (p : Option Addr) (k q : Nat), W.cell? (a.add i) = some (.slice p k q) ∧ CArg W p k l ∧ k ≤ q := fun i hin => by
      obtain ⟨cs', hc', htr⟩ := hi i (by omega)
      obtain ⟨p, k, q, l, rfl, hraw, hd, hkq, -⟩ := cells_open Tryz.underlying22 htr
      rw [hc1, Nat.mul_one] at hc'
      refine ⟨l, p, k, q, cell_of1 hc', hraw.arg ?_, hkq⟩
      rcases hd with ⟨h0, -⟩ | ⟨sp, hsl⟩
      · intro x hx
        rw [List.eq_nil_of_length_eq_zero (hraw.1.trans h0)] at hx
        cases hx
      · exact hs2 (D i) (List.mem_map.2 ⟨i, List.mem_range.2 hin, rfl⟩) l sp hsl
    obtain ⟨f, hf⟩ : ∃ f : Nat → List Cel, ∀ i, i < n → ∃ (p : Option Addr) (k q : Nat), W.cell? (a.add i) = some (.slice p k q) ∧ CArg W p k (f i) ∧ k ≤ q :=
      ⟨fun i => if h : i < n then Classical.choose (each i h) else [], fun i hi => by simp only [dif_pos hi]; exact Classical.choose_spec (each i hi)⟩
    refine ⟨(List.range n).map f, ⟨by simp, fun i hi => ?_⟩, hle⟩
    have hin : i < n := by simpa using hi
    obtain ⟨p, k, q, h1, h2, h3⟩ := hf i hin
    exact ⟨a, p, k, q, rfl, h1, by simpa using h2, h3⟩
/-- At most 20 strings of at most 300 bytes. -/
def namesB (ks : List ByteArray) : Bool := decide (ks.length ≤ 20) && ks.all fun x => decide (x.size ≤ 300)
theorem names_yes {ks : List ByteArray} (h : namesB ks = true) : ks.length ≤ 20 ∧ ∀ x ∈ ks, x.size ≤ 300 := by
  unfold namesB at h
  simp only [Bool.and_eq_true, decide_eq_true_eq, List.all_eq_true] at h
  exact h
/-- At most 20 small values. -/
def allB (ls : List (List Cel)) : Bool := decide (ls.length ≤ 20) && ls.all smallB
theorem all_yes {ls : List (List Cel)} (h : allB ls = true) : ls.length ≤ 20 ∧ ∀ l ∈ ls, smallB l = true := by
  unfold allB at h
  simp only [Bool.and_eq_true, decide_eq_true_eq, List.all_eq_true] at h
  exact h
theorem small_any2 (l : List Cel) (o : Option Addr) (n c : Nat) (w : World) (hA : CArg w o n l) :
    Calls Tryz.prog 4 #[.slice o n c] w fun e w' => e = .returned (.bool (smallB l)) ∧ w = w' := by
  by_cases hn : n ≤ 4611686018427387904
  · exact small_any l o n c hn w hA
  · have hl := hA.1
    have hz : Hid (smallB l = false) := Lib.hid (by unfold smallB; rw [decide_eq_false (by omega)]; rfl)
    have h3 : 300 < n := by omega
    clear hA hl hn
    go_enter Tryz.func4, Tryz.ntmps4
    go_wp2
    go_ret
    exact ⟨by rw [hz.out]; rfl, rfl⟩
set_option maxHeartbeats 2000000 in
theorem names_any (ks : List ByteArray) (o : Option Addr) (n c : Nat) (w : World) (hA : SlArg w o n ks) :
    Calls Tryz.prog 5 #[.slice o n c] w fun e w' => e = .returned (.bool (namesB ks)) ∧ w = w' := by
  have hl := hA.1
  have HA := Lib.hid hA
  by_cases h3 : 20 < n
  · have hz : Hid (namesB ks = false) := Lib.hid (by unfold namesB; rw [decide_eq_false (by omega)]; rfl)
    clear hA hl
    go_enter Tryz.func5, Tryz.ntmps5
    go_wp2
    go_ret
    exact ⟨by rw [hz.out]; rfl, rfl⟩
  · obtain ⟨B, hB⟩ : ∃ B, namesB ks = B := ⟨_, rfl⟩
    rw [hB]
    have HB : Hid ((ks.drop 0).all (fun x => decide (x.size ≤ 300)) = B) := Lib.hid (by rw [← hB]; unfold namesB; rw [decide_eq_true (by omega)]; rfl)
    have d3 : decide ((20 : Int) < (n : Int)) = false := decide_eq_false (by omega)
    clear hA hB
    go_enter Tryz.func5, Tryz.ntmps5
    go_wp2
    go_loop [9] (fun i => ∃ k : Nat, i = .int .i64 (k : Int) ∧ k ≤ n ∧ Hid ((ks.drop k).all (fun x => decide (x.size ≤ 300)) = B)) (fun i => n - (intOf i).toNat)
    case atStart => exact ⟨0, rfl, Nat.zero_le _, HB⟩
    case round =>
      obtain ⟨k, rfl, hk, hr⟩ := hrel
      clear HB
      by_cases hlt : k < n
      · have hkl : k < ks.length := by omega
        obtain ⟨a, rfl, hcs⟩ := HA.out.2 k hkl
        have hst := hr.out
        rw [List.drop_eq_getElem_cons hkl, List.all_cons] at hst
        obtain ⟨X, hX⟩ : ∃ X, ks[k] = X := ⟨_, rfl⟩
        rw [hX] at hst hcs
        have Hst := Lib.hid hst
        clear hr hst hX
        by_cases hs3 : 300 < X.size
        · have hz : Hid (B = false) := Lib.hid (by rw [← Hst.out, decide_eq_false (by omega)]; rfl)
          clear Hst
          go_wp2
          go_ret
          exact ⟨by rw [hz.out]; rfl, rfl⟩
        · have hz : Hid ((ks.drop (k + 1)).all (fun x => decide (x.size ≤ 300)) = B) := Lib.hid (by rw [← Hst.out, decide_eq_true (by omega), Bool.true_and])
          have ds : decide ((300 : Int) < (X.size : Int)) = false := decide_eq_false (by omega)
          clear Hst
          go_wp2
          go_round
          case rel => exact ⟨k + 1, by go_num, by omega, hz⟩
          case measure => simp [intOf]; omega
      · obtain rfl : k = n := by omega
        have hz : Hid (B = true) := Lib.hid (by rw [← hr.out, List.drop_of_length_le (by omega)]; rfl)
        clear hr
        go_wp2
        go_ret
        exact ⟨by rw [hz.out]; rfl, rfl⟩
end Val
end Go.Proofs.YtegfcmnbljdcpaaGreatDoor
