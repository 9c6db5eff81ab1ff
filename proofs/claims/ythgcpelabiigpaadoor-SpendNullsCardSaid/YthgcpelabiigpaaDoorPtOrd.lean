/-
  The order of digests and of places: of two unlike ones just one is less; less and less is less. Condition: digests of one length.
-/
import Derived.Test.YthgcpelabiigpaaDoorPtLess
namespace Go.Proofs.YthgcpelabiigpaaDoor.Sha
open Go Go.RowKit

theorem less_asym : ∀ (l m : List UInt8), l.length = m.length → lessL l m = true → lessL m l = false
  | [], [], _, h => by cases h
  | x :: l, y :: m, hl, h => by
    rw [less_cons] at h ⊢
    simp only [Bool.or_eq_true, Bool.and_eq_true, decide_eq_true_eq] at h
    rcases h with h | ⟨rfl, h⟩
    · have h1 : ¬ y < x := fun h2 => absurd (UInt8.lt_trans h h2) (UInt8.lt_irrefl x)
      have h2 : ¬ y = x := fun e => by subst e; exact absurd h (UInt8.lt_irrefl y)
      simp [h1, h2]
    · rw [less_asym l m (by simpa using hl) h]
      simp [UInt8.lt_irrefl]
theorem less_total : ∀ (l m : List UInt8), l.length = m.length → l ≠ m → lessL l m = false → lessL m l = true
  | [], [], _, h, _ => absurd rfl h
  | x :: l, y :: m, hl, hne, h => by
    rw [less_cons] at h ⊢
    simp only [Bool.or_eq_false_iff, Bool.and_eq_false_iff, decide_eq_false_iff_not] at h
    by_cases e : x = y
    · subst e
      have h1 : lessL l m = false := by rcases h.2 with h2 | h2 <;> simp_all
      rw [less_total l m (by simpa using hl) (fun e => hne (by rw [e])) h1]
      simp
    · have : y < x := UInt8.lt_of_le_of_ne (UInt8.not_lt.1 h.1) (fun e' => e e'.symm)
      simp [this]
theorem less_trans : ∀ (l m k : List UInt8), l.length = m.length → m.length = k.length → lessL l m = true → lessL m k = true → lessL l k = true
  | [], [], _, _, _, h, _ => by cases h
  | x :: l, y :: m, z :: k, h1, h2, h, h' => by
    rw [less_cons] at h h' ⊢
    simp only [Bool.or_eq_true, Bool.and_eq_true, decide_eq_true_eq] at h h' ⊢
    rcases h with h | ⟨rfl, h⟩ <;> rcases h' with h' | ⟨rfl, h'⟩
    · exact .inl (UInt8.lt_trans h h')
    · exact .inl h
    · exact .inl h'
    · exact .inr ⟨rfl, less_trans l m k (by simpa using h1) (by simpa using h2) h h'⟩
theorem lessPt_asym {a b : List UInt8} {n m : Nat} (hl : a.length = b.length) (h : lessPt a n b m = true) : lessPt b m a n = false := by
  unfold lessPt at h ⊢
  by_cases e : a = b
  · subst e
    simp only [if_true, decide_eq_true_eq] at h ⊢
    exact decide_eq_false (by omega)
  · rw [if_neg e] at h
    rw [if_neg (fun e' => e e'.symm)]
    exact less_asym a b hl h
theorem lessPt_total {a b : List UInt8} {n m : Nat} (hl : a.length = b.length) (hne : (decide (a = b) && decide (n = m)) = false) (h : lessPt a n b m = false) : lessPt b m a n = true := by
  unfold lessPt at h ⊢
  by_cases e : a = b
  · subst e
    simp at h hne ⊢
    omega
  · rw [if_neg e] at h
    rw [if_neg (fun e' => e e'.symm)]
    exact less_total a b hl e h
theorem lessPt_self (a : List UInt8) (n : Nat) : lessPt a n a n = false := by simp [lessPt]
theorem lessPt_ne {a b : List UInt8} {n m : Nat} (h : lessPt a n b m = true) : (decide (a = b) && decide (n = m)) = false := by
  by_cases e : a = b
  · subst e
    by_cases e2 : n = m
    · subst e2
      rw [lessPt_self] at h
      cases h
    · simp [e2]
  · simp [e]
theorem lessPt_trans {a b c : List UInt8} {n m k : Nat} (hl : a.length = b.length) (hl' : b.length = c.length) (h : lessPt a n b m = true) (h' : lessPt b m c k = true) : lessPt a n c k = true := by
  unfold lessPt at h h' ⊢
  by_cases e : a = b
  · subst e
    by_cases e' : a = c
    · subst e'
      simp only [if_true, decide_eq_true_eq] at h h' ⊢
      omega
    · simp only [if_true, if_neg e', decide_eq_true_eq] at h h' ⊢
      exact h'
  · by_cases e' : b = c
    · subst e'
      simp only [if_neg e] at h ⊢
      exact h
    · simp only [if_neg e, if_neg e'] at h h'
      have h2 := less_trans a b c hl hl' h h'
      by_cases e2 : a = c
      · subst e2
        rw [less_self] at h2
        cases h2
      · rw [if_neg e2]
        exact h2
end Go.Proofs.YthgcpelabiigpaaDoor.Sha
