/-
  Layer 6, plainly: what Put builds, by the place of its key.
-/
import Derived.Test.YtegfcmnbljdcpaaGreatDoorVdZ
import Derived.Test.YtegfcmnbljdcpaaGreatDoorVfB
namespace Go.Proofs.YtegfcmnbljdcpaaGreatDoor
open Go.RowKit Go.ChangeShapes Go.WideShapes
namespace Val

theorem putL_true (key : ByteArray) (x : List Cel) : ∀ (ks : List ByteArray) (vs : List (List Cel)), key ∉ ks → putL key x true ks vs = ks.zip vs
  | [], vs, _ => by rw [putL_nil]; rfl
  | k :: ks, [], h => by
    rw [putL]
    · rfl
    · intros; simp_all
  | k :: ks, v :: vs, h => by
    have h1 : ¬ k = key := fun e => h (by rw [e]; exact List.mem_cons_self ..)
    rw [putL, if_neg (by simp), if_neg h1, putL_true key x ks vs (fun e => h (List.mem_cons_of_mem _ e))]
    rfl
/-- Keys that ascend. -/
def Asc (ks : List ByteArray) : Prop := ks.Pairwise (fun a b => a.toList < b.toList)
theorem putL_at (key : ByteArray) (x : List Cel) : ∀ (ks : List ByteArray) (vs : List (List Cel)) (p : Nat), ks.length = vs.length → Asc ks → p ≤ ks.length → (∀ i (hi : i < ks.length), i < p → ks[i].toList < key.toList) → (∀ i (hi : i < ks.length), p ≤ i → ¬ ks[i].toList < key.toList) →
    putL key x false ks vs = if ks[p]? = some key then ks.zip (vs.set p x) else (ks.take p ++ key :: ks.drop p).zip (vs.take p ++ x :: vs.drop p)
  | [], [], p, _, _, hp, _, _ => by
    obtain rfl : p = 0 := by simpa using hp
    rw [putL_nil]
    simp
  | [], _ :: _, _, hl, _, _, _, _ => by simp at hl
  | _ :: _, [], _, hl, _, _, _, _ => by simp at hl
  | k :: ks, v :: vs, 0, hl, ha, hp, _, h2 => by
    have hk := h2 0 (by simp) (Nat.le_refl _)
    simp only [List.getElem_cons_zero] at hk
    obtain ⟨ha1, ha2⟩ := List.pairwise_cons.1 ha
    have hni : key ∉ ks := fun e => hk (ha1 key e)
    rw [putL, if_pos ⟨rfl, hk⟩]
    by_cases e : k = key
    · subst e
      rw [if_pos rfl, if_pos (by simp), putL_true k x ks vs hni]
      rfl
    · rw [if_neg e, if_neg (by simpa using e), putL_true key x ks vs hni]
      rfl
  | k :: ks, v :: vs, p + 1, hl, ha, hp, h1, h2 => by
    have hk := h1 0 (by simp) (by omega)
    simp only [List.getElem_cons_zero] at hk
    obtain ⟨ha1, ha2⟩ := List.pairwise_cons.1 ha
    have hne : ¬ k = key := fun e => by rw [e] at hk; exact List.lt_irrefl _ hk
    have ih := putL_at key x ks vs p (by simpa using hl) ha2 (by simpa using hp) (fun i hi hip => h1 (i + 1) (by rw [List.length_cons]; omega) (by omega)) (fun i hi hip => h2 (i + 1) (by rw [List.length_cons]; omega) (by omega))
    rw [putL, if_neg (by simp [hk]), if_neg hne, ih]
    simp only [List.getElem?_cons_succ, List.set_cons_succ, List.take_succ_cons, List.drop_succ_cons, List.cons_append, List.zip_cons_cons]
    split <;> rfl
theorem asc_from : ∀ (m : M) (q : Option Txt), wfM q m = true → Asc (keysM m) ∧ ∀ k ∈ keysM m, ∀ p, q = some p → p < k.toList
  | .nil, q, _ => ⟨List.Pairwise.nil, fun k h => by cases h⟩
  | .cons k v r, q, h => by
    rw [wfM] at h
    simp only [Bool.and_eq_true] at h
    obtain ⟨h1, h2⟩ := asc_from r (some k) h.2
    have h3 := h.1.1.2
    refine ⟨List.pairwise_cons.2 ⟨fun a ha => by rw [tl k]; exact h2 a ha k rfl, h1⟩, fun a ha p hp => ?_⟩
    subst hp
    have h4 : p < k := by simpa [above] using h3
    rcases List.mem_cons.1 ha with rfl | ha
    · rw [tl k]; exact h4
    · exact List.lt_trans h4 (h2 a ha k rfl)
theorem asc_keys {l : List Cel} (h : keyE l = 0) : Asc (keyB l) := by
  obtain ⟨x, hp, hz, h1, h2⟩ := key_map h
  obtain ⟨hw, -⟩ := par_some.1 hp
  rw [h1]
  exact (asc_from x none (by rw [wf] at hw; exact hw)).1
theorem asc_at {ks : List ByteArray} (h : Asc ks) : ∀ i j (hi : i < ks.length) (hj : j < ks.length), i < j → ks[i].toList < ks[j].toList := fun i j hi hj hij => List.pairwise_iff_getElem.1 h i j hi hj hij
theorem firstE_bad {x : List Cel} (hx : chk x ≠ 0) : ∀ ls : List (List Cel), (∀ v ∈ ls, chk v = 0 ∨ v = x) → x ∈ ls → firstE ls = chk x
  | [], _, h => by cases h
  | a :: r, h, hm => by
    rw [firstE]
    rcases h a (List.mem_cons_self ..) with ha | rfl
    · rw [if_pos ha]
      refine firstE_bad hx r (fun v hv => h v (List.mem_cons_of_mem _ hv)) ?_
      rcases List.mem_cons.1 hm with rfl | hm
      · exact absurd ha hx
      · exact hm
    · rw [if_neg hx]
theorem itm_ok {l : List Cel} (h : keyE l = 0) {y : List Cel} (hy : y ∈ itmB l) : chk y = 0 := by
  obtain ⟨x, hp, hz, h1, h2⟩ := key_map h
  obtain ⟨hw, hlf⟩ := par_some.1 hp
  rw [h2] at hy
  refine chk_sub ?_ hy
  rw [← hlf]
  unfold chk
  rw [hp]
  exact hz
/-- What Put answers, in one way, by the list that it builds. -/
theorem put_one {l x : List Cel} {key : ByteArray} (h : keyE l = 0) {ns : List ByteArray} {ls : List (List Cel)} (hl : ns.length = ls.length) (hz : putL key x false (keyB l) (itmB l) = ns.zip ls) (hx : x ∈ ls) (hv : ∀ v ∈ ls, v = x ∨ v ∈ itmB l) :
    putB l key x = mapB ns ls ∧ putE l key x = mapE ns ls := by
  have e1 : putN l key x = ns := by unfold putN; rw [hz, List.map_fst_zip (by omega)]
  have e2 : putV l key x = ls := by unfold putV; rw [hz, List.map_snd_zip (by omega)]
  unfold putB putE
  rw [if_pos h, if_pos h, e1, e2]
  by_cases hc : chk x = 0
  · rw [if_pos hc, if_pos hc]; exact ⟨rfl, rfl⟩
  · have hf := firstE_bad hc ls (fun v m => (hv v m).elim Or.inr (fun m => Or.inl (itm_ok h m))) hx
    have hf2 : ¬ firstE ls = 0 := by rw [hf]; exact hc
    rw [if_neg hc, if_neg hc]
    unfold mapB mapE
    rw [if_pos hl, if_pos hl, if_neg hf2, if_neg hf2]
    exact ⟨rfl, hf.symm⟩
theorem itm_cells {l : List Cel} (h : keyE l = 0) {y : List Cel} (hy : y ∈ itmB l) : y.length ≤ 200 ∧ ∀ c ∈ y, c ∈ l := by
  obtain ⟨m, hp, hz, h1, h2⟩ := key_map h
  obtain ⟨_, hlf⟩ := par_some.1 hp
  have hlen := chk_len hz
  rw [h2] at hy
  obtain ⟨u, rfl, _, a, b, _⟩ := valsM_sub m y hy
  have e : (flatM m).length + 1 = l.length := by rw [hlf, flat, List.length_cons]
  exact ⟨by omega, fun c hc => by rw [hlf, flat]; exact List.mem_cons_of_mem _ (a c hc)⟩
theorem prs_le : ∀ (ks : List ByteArray) (ls : List (List Cel)) (B : Nat), (∀ v ∈ ls, v.length ≤ B) → (prsC ks ls).length ≤ ks.length * (B + 1)
  | [], _, B, _ => by simp [prsC]
  | _ :: _, [], B, _ => by simp [prsC]
  | k :: ks, v :: vs, B, h => by
    have ih := prs_le ks vs B (fun u hu => h u (List.mem_cons_of_mem _ hu))
    have e : prsC (k :: ks) (v :: vs) = pairC (k, v) ++ prsC ks vs := rfl
    have e1 : (pairC (k, v)).length = v.length + 1 := rfl
    have e2 := h v (List.mem_cons_self ..)
    rw [e, List.length_append, List.length_cons, Nat.add_mul]
    omega
theorem key_size {l : List Cel} (h : keyE l = 0) (hs : Shrt l) {k : ByteArray} (hk : k ∈ keyB l) : k.size ≤ 1000000 := by
  obtain ⟨m, hp, hz, h1, h2⟩ := key_map h
  obtain ⟨_, hlf⟩ := par_some.1 hp
  rw [h1] at hk
  have h4 := keysM_cell m _ hk
  have h5 := hs _ (by rw [hlf, flat]; exact List.mem_cons_of_mem _ h4)
  rw [← toL_len]
  exact h5
theorem key_few {l : List Cel} (h : keyE l = 0) : (keyB l).length ≤ 200 := by
  obtain ⟨m, hp, hz, h1, h2⟩ := key_map h
  obtain ⟨_, hlf⟩ := par_some.1 hp
  have hlen := chk_len hz
  have e : (flatM m).length + 1 = l.length := by rw [hlf, flat, List.length_cons]
  rw [h1, keysM_len]
  have := lenM_le m
  omega
end Val
end Go.Proofs.YtegfcmnbljdcpaaGreatDoor
