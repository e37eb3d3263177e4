/-
  Plain: frames one after the other; packed records. No program.
-/
import Derived.Test.YtkecellbbfhpoaaFrmA
namespace Go.Proofs.Ytkecellbbfhpoaa
open Hsh
namespace Frm

/-- The bodies of the frames at the beginning, at most k of them, and the place behind them. -/
def spl : Nat → List UInt8 → List (List UInt8) × Nat
  | 0, _ => ([], 0)
  | k + 1, s => match opn s with
    | .ok (b, n) => (b :: (spl k (s.drop n)).1, n + (spl k (s.drop n)).2)
    | .error _ => ([], 0)
theorem spl_bad {k : Nat} {s : List UInt8} {e : Bad} (h : opn s = .error e) : spl k s = ([], 0) := by
  cases k with
  | zero => rfl
  | succ k => rw [spl, h]
theorem spl_ok {k n : Nat} {s b : List UInt8} (h : opn s = .ok (b, n)) : spl (k + 1) s = (b :: (spl k (s.drop n)).1, n + (spl k (s.drop n)).2) := by rw [spl, h]
/-- So many steps are enough. -/
theorem spl_more : ∀ (k j : Nat) (s : List UInt8), s.length < 8 * k → s.length < 8 * j → spl k s = spl j s
  | 0, _, _, h, _ => absurd h (by omega)
  | _ + 1, 0, _, _, h => absurd h (by omega)
  | k + 1, j + 1, s, h1, h2 => by
    cases ho : opn s with
    | error e => rw [spl_bad ho, spl_bad ho]
    | ok x =>
      obtain ⟨b, n⟩ := x
      have hk := opn_ok ho
      rw [spl_ok ho, spl_ok ho, spl_more k j (s.drop n) (by rw [List.length_drop]; omega) (by rw [List.length_drop]; omega)]
def split (s : List UInt8) : List (List UInt8) × Nat := spl (s.length + 1) s
theorem split_bad {s : List UInt8} {e : Bad} (h : opn s = .error e) : split s = ([], 0) := spl_bad h
theorem split_ok {n : Nat} {s b : List UInt8} (h : opn s = .ok (b, n)) : split s = (b :: (split (s.drop n)).1, n + (split (s.drop n)).2) := by
  have hk := opn_ok h
  unfold split
  rw [spl_ok h, spl_more s.length ((s.drop n).length + 1) (s.drop n) (by rw [List.length_drop]; omega) (by rw [List.length_drop]; omega)]
theorem split_le : ∀ (k : Nat) (s : List UInt8), s.length ≤ k → (split s).2 ≤ s.length
  | 0, s, h => by
    rw [split_bad (opn_short (by omega))]
    exact Nat.zero_le _
  | k + 1, s, h => by
    cases ho : opn s with
    | error e => rw [split_bad ho]; exact Nat.zero_le _
    | ok x =>
      obtain ⟨b, n⟩ := x
      have hk := opn_ok ho
      rw [split_ok ho]
      have := split_le k (s.drop n) (by rw [List.length_drop]; omega)
      rw [List.length_drop] at this
      show n + _ ≤ _
      omega

/-- The frames of bodies. -/
def frms (l : List (List UInt8)) : List UInt8 := l.flatMap frm
theorem frms_cons (b : List UInt8) (r : List (List UInt8)) : frms (b :: r) = frm b ++ frms r := rfl
/-- How many frames are whole, and where they end, if all is cut behind so many bytes. -/
def torn : List (List UInt8) → Nat → Nat × Nat
  | [], _ => (0, 0)
  | b :: r, cut => if 8 + b.length ≤ cut then ((torn r (cut - (8 + b.length))).1 + 1, 8 + b.length + (torn r (cut - (8 + b.length))).2) else (0, 0)
theorem torn_cons (b : List UInt8) (r : List (List UInt8)) (cut : Nat) : torn (b :: r) cut = if 8 + b.length ≤ cut then ((torn r (cut - (8 + b.length))).1 + 1, 8 + b.length + (torn r (cut - (8 + b.length))).2) else (0, 0) := rfl
theorem split_torn : ∀ (l : List (List UInt8)) (cut : Nat), (∀ b ∈ l, b.length ≤ 262136) → split ((frms l).take cut) = (l.take (torn l cut).1, (torn l cut).2)
  | [], cut, _ => by
    have e : (frms []).take cut = [] := by simp [frms]
    rw [e, split_bad (opn_short (by simp))]
    rfl
  | b :: r, cut, h => by
    have hb := h b (List.mem_cons_self ..)
    have hl := frm_len b
    rw [frms_cons]
    by_cases hc : 8 + b.length ≤ cut
    · have e : (frm b ++ frms r).take cut = frm b ++ (frms r).take (cut - (8 + b.length)) := by
        rw [List.take_append, List.take_of_length_le (by omega), hl, Nat.add_comm b.length]
      rw [e, split_ok (opn_frm b _ hb)]
      have e2 : (frm b ++ (frms r).take (cut - (8 + b.length))).drop (8 + b.length) = (frms r).take (cut - (8 + b.length)) := List.drop_left' (by omega)
      rw [e2, split_torn r _ (fun x hx => h x (List.mem_cons_of_mem _ hx))]
      rw [torn_cons, if_pos hc]
      rfl
    · have e : (frm b ++ frms r).take cut = (frm b).take cut := List.take_append_of_le_length (by omega)
      rw [e, split_bad (opn_cut b hb cut (by omega))]
      rw [torn_cons, if_neg hc]
      rfl
theorem torn_all : ∀ (l : List (List UInt8)), torn l (frms l).length = (l.length, (frms l).length)
  | [] => rfl
  | b :: r => by
    have hl := frm_len b
    rw [frms_cons, List.length_append, hl]
    rw [torn_cons, if_pos (by omega), show b.length + 8 + (frms r).length - (8 + b.length) = (frms r).length by omega, torn_all r]
    simp only [List.length_cons, Prod.mk.injEq, true_and]
    omega
theorem split_frms (l : List (List UInt8)) (h : ∀ b ∈ l, b.length ≤ 262136) : split (frms l) = (l, (frms l).length) := by
  have := split_torn l (frms l).length h
  rw [List.take_length, torn_all l, List.take_length] at this
  exact this

/-- A field, and a record, as packed. -/
def fld (f : List UInt8) : List UInt8 := UInt8.ofNat (f.length / 256) :: UInt8.ofNat f.length :: f
def flds (fs : List (List UInt8)) : List UInt8 := fs.flatMap fld
def pck (fs : List (List UInt8)) : List UInt8 := UInt8.ofNat fs.length :: flds fs
def val2 (a b : UInt8) : Nat := a.toNat * 256 + b.toNat
theorem val2_of (n : Nat) (h : n ≤ 4000) : val2 (UInt8.ofNat (n / 256)) (UInt8.ofNat n) = n := by
  unfold val2
  simp only [UInt8.toNat_ofNat']
  omega
theorem of_val2 {a b : UInt8} : UInt8.ofNat (val2 a b / 256) = a ∧ UInt8.ofNat (val2 a b) = b := by
  have := a.toNat_lt; have := b.toNat_lt
  unfold val2
  constructor <;> apply UInt8.toNat_inj.1 <;> simp only [UInt8.toNat_ofNat'] <;> omega
/-- So many fields, and what is left. -/
def unpF : Nat → List UInt8 → Except Bad (List (List UInt8) × List UInt8)
  | 0, s => .ok ([], s)
  | k + 1, a :: b :: r =>
    if 4000 < val2 a b then .error .corrupt
    else if r.length < val2 a b then .error .trunc
    else match unpF k (r.drop (val2 a b)) with
      | .ok (fs, t) => .ok (r.take (val2 a b) :: fs, t)
      | .error e => .error e
  | _ + 1, _ => .error .trunc
def unp : List UInt8 → Except Bad (List (List UInt8))
  | [] => .error .trunc
  | c :: r => if 64 < c.toNat then .error .corrupt else match unpF c.toNat r with
    | .error e => .error e
    | .ok (fs, []) => .ok fs
    | .ok (_, _ :: _) => .error .corrupt
theorem unp_eq (c : UInt8) (r : List UInt8) : unp (c :: r) = if 64 < c.toNat then .error .corrupt else match unpF c.toNat r with
    | .error e => .error e
    | .ok (fs, []) => .ok fs
    | .ok (_, _ :: _) => .error .corrupt := rfl
theorem unpF_eq (k : Nat) (a b : UInt8) (r : List UInt8) : unpF (k + 1) (a :: b :: r) =
    if 4000 < val2 a b then .error .corrupt
    else if r.length < val2 a b then .error .trunc
    else match unpF k (r.drop (val2 a b)) with
      | .ok (fs, t) => .ok (r.take (val2 a b) :: fs, t)
      | .error e => .error e := rfl
theorem unpF_short {k : Nat} {s : List UInt8} (h : s.length < 2) : unpF (k + 1) s = .error .trunc := by
  match s, h with
  | [], _ => rfl
  | [_], _ => rfl
  | _ :: _ :: _, h => simp at h; omega
theorem flds_cons (f : List UInt8) (r : List (List UInt8)) : flds (f :: r) = UInt8.ofNat (f.length / 256) :: UInt8.ofNat f.length :: (f ++ flds r) := rfl
theorem unpF_flds : ∀ (fs : List (List UInt8)) (t : List UInt8), (∀ f ∈ fs, f.length ≤ 4000) → unpF fs.length (flds fs ++ t) = .ok (fs, t)
  | [], t, _ => rfl
  | f :: r, t, h => by
    have hf := h f (List.mem_cons_self ..)
    rw [flds_cons]
    simp only [List.length_cons, List.cons_append]
    rw [unpF_eq, val2_of f.length hf, if_neg (by omega), if_neg (by simp), List.append_assoc, List.drop_left' rfl, List.take_left' rfl, unpF_flds r t (fun x hx => h x (List.mem_cons_of_mem _ hx))]
theorem unpF_ok : ∀ (k : Nat) (s : List UInt8) (fs : List (List UInt8)) (t : List UInt8), unpF k s = .ok (fs, t) → fs.length = k ∧ (∀ f ∈ fs, f.length ≤ 4000) ∧ flds fs ++ t = s
  | 0, s, fs, t, h => by
    simp only [unpF, Except.ok.injEq, Prod.mk.injEq] at h
    obtain ⟨rfl, rfl⟩ := h
    exact ⟨rfl, (fun f hf => by cases hf), rfl⟩
  | k + 1, [], fs, t, h => by cases h
  | k + 1, [_], fs, t, h => by cases h
  | k + 1, a :: b :: r, fs, t, h => by
    rw [unpF_eq] at h
    by_cases h1 : 4000 < val2 a b
    · rw [if_pos h1] at h; cases h
    rw [if_neg h1] at h
    by_cases h2 : r.length < val2 a b
    · rw [if_pos h2] at h; cases h
    rw [if_neg h2] at h
    cases hu : unpF k (r.drop (val2 a b)) with
    | error e => rw [hu] at h; cases h
    | ok x =>
      obtain ⟨gs, t'⟩ := x
      rw [hu] at h
      simp only [Except.ok.injEq, Prod.mk.injEq] at h
      obtain ⟨rfl, rfl⟩ := h
      obtain ⟨i1, i2, i3⟩ := unpF_ok k _ gs t' hu
      have hl : (r.take (val2 a b)).length = val2 a b := by rw [List.length_take]; omega
      refine ⟨by simp [i1], fun f hf => ?_, ?_⟩
      · rcases List.mem_cons.1 hf with rfl | hf
        · omega
        · exact i2 f hf
      · rw [flds_cons, hl, (of_val2 (a := a) (b := b)).1, (of_val2 (a := a) (b := b)).2]
        simp only [List.cons_append, List.append_assoc, i3, List.take_append_drop]
theorem unpF_cut : ∀ (fs : List (List UInt8)) (cut : Nat), (∀ f ∈ fs, f.length ≤ 4000) → cut < (flds fs).length → unpF fs.length ((flds fs).take cut) = .error .trunc
  | [], cut, _, h => by simp [flds] at h
  | f :: r, cut, h, hc => by
    have hf := h f (List.mem_cons_self ..)
    rw [flds_cons] at hc ⊢
    simp only [List.length_cons, List.length_append] at hc
    rcases Nat.lt_or_ge cut 2 with h2 | h2
    · exact unpF_short (by simp; omega)
    · obtain ⟨m, rfl⟩ : ∃ m, cut = m + 2 := ⟨cut - 2, by omega⟩
      simp only [List.length_cons, List.take_succ_cons]
      rw [unpF_eq, val2_of f.length hf, if_neg (by omega)]
      by_cases hm : m < f.length
      · rw [if_pos (by simp; omega)]
      · rw [if_neg (by simp; omega), List.take_append, List.take_of_length_le (by omega), List.drop_left' rfl, unpF_cut r (m - f.length) (fun x hx => h x (List.mem_cons_of_mem _ hx)) (by omega)]
/-- What may be packed. -/
def OkR (fs : List (List UInt8)) : Prop := fs.length ≤ 64 ∧ ∀ f ∈ fs, f.length ≤ 4000
theorem cnt_of {n : Nat} (h : n ≤ 64) : (UInt8.ofNat n).toNat = n := by
  rw [UInt8.toNat_ofNat']
  omega
theorem unp_pck {fs : List (List UInt8)} (h : OkR fs) : unp (pck fs) = .ok fs := by
  have e := unpF_flds fs [] h.2
  rw [List.append_nil] at e
  unfold pck
  rw [unp_eq, cnt_of h.1, if_neg (by have := h.1; omega), e]
theorem pck_unp {s : List UInt8} {fs : List (List UInt8)} (h : unp s = .ok fs) : OkR fs ∧ pck fs = s := by
  match s, h with
  | [], h => cases h
  | c :: r, h =>
    rw [unp_eq] at h
    by_cases h1 : 64 < c.toNat
    · rw [if_pos h1] at h; cases h
    rw [if_neg h1] at h
    cases hu : unpF c.toNat r with
    | error e => rw [hu] at h; cases h
    | ok x =>
      obtain ⟨gs, t⟩ := x
      rw [hu] at h
      cases t with
      | cons _ _ => cases h
      | nil =>
        simp only [Except.ok.injEq] at h
        subst h
        obtain ⟨i1, i2, i3⟩ := unpF_ok _ _ _ _ hu
        rw [List.append_nil] at i3
        refine ⟨⟨by omega, i2⟩, ?_⟩
        unfold pck
        rw [i1, i3]
        congr 1
        apply UInt8.toNat_inj.1
        exact cnt_of (by omega)
theorem unp_cut {fs : List (List UInt8)} (h : OkR fs) {cut : Nat} (hc : cut < (pck fs).length) : unp ((pck fs).take cut) = .error .trunc := by
  cases cut with
  | zero => rfl
  | succ m =>
    unfold pck at hc ⊢
    simp only [List.length_cons, List.take_succ_cons] at hc ⊢
    rw [unp_eq, cnt_of h.1, if_neg (by have := h.1; omega), unpF_cut fs m h.2 (by omega)]
end Frm
end Go.Proofs.Ytkecellbbfhpoaa
