/- A text's tasks, one behind the other: plain facts. -/
import Derived.Test.YtfpaigcbjpolhaaParseTask
namespace Go.Proofs.Ytfpaigcbjpolhaa.Lex
open Go.ChangeShapes Go.WideShapes Go.RowKit

/- what is left is no longer -/
theorem then_ok {A B : Type} {x : Except (Int × Int) A} {f : A → Except (Int × Int) B} {b : B} (h : thenE x f = .ok b) : ∃ a, x = .ok a ∧ f a = .ok b := by
  cases x with
  | error p => cases h
  | ok a => exact ⟨a, rfl, h⟩
theorem word_rest {nm : List UInt8} {L M : List Tok} (h : wordP nm L = .ok M) : M.length + 1 = L.length := by
  rw [wordP] at h
  split at h
  · rename_i hw
    cases L with
    | nil => cases hw
    | cons t r => cases h; rfl
  · cases h
theorem tok_rest {k : Int} {L : List Tok} {q : Tok × List Tok} (h : tokP k L = .ok q) : q.2.length + 1 = L.length := by
  cases L with
  | nil => cases h
  | cons t r =>
    rw [tokP] at h
    split at h
    · cases h; rfl
    · cases h
theorem nums_rest (L : List Tok) : (numsP L).2.length ≤ L.length := by
  induction L with
  | nil => exact Nat.le_refl _
  | cons t r ih =>
    rw [numsP]
    split
    · simp only [List.length_cons]; omega
    · exact Nat.le_refl _
theorem setsP_rest : ∀ (L : List Tok) (last : Int) (x : Nat) (q : Nat × List Tok), setsP last x L = .ok q → q.2.length ≤ L.length
  | [], last, x, q, h => by rw [setsP] at h; cases h; exact Nat.le_refl _
  | t :: r, last, x, q, h => by
    rw [setsP] at h
    split at h
    · split at h
      · cases h
      · have := setsP_rest r _ _ q h
        simp only [List.length_cons]; omega
    · cases h; exact Nat.le_refl _
theorem sets_rest {nm : List UInt8} {L : List Tok} {q : Nat × List Tok} (h : setsOf nm L = .ok q) : q.2.length ≤ L.length := by
  rw [setsOf] at h
  have hl : L.tail.length ≤ L.length := by simp
  split at h
  · split at h
    · have := setsP_rest _ _ _ q h; omega
    · cases h
  · cases h; exact Nat.le_refl _
theorem mode_rest {L : List Tok} {q : Mode3 × List Tok} (h : modeP L = .ok q) : q.2.length ≤ L.length := by
  rw [modeP] at h
  have hl : L.tail.length ≤ L.length := by simp
  split at h
  · cases h; exact hl
  · split at h
    · obtain ⟨a, h1, h2⟩ := then_ok h
      have := tok_rest h1
      cases h2; simp only; omega
    · split at h
      · obtain ⟨a, h1, h2⟩ := then_ok h
        have := tok_rest h1
        cases h2; simp only; omega
      · cases h
theorem task_rest {L : List Tok} {q : TaskV × List Tok} (h : taskP L = .ok q) : q.2.length ≤ L.length := by
  rw [taskP] at h
  obtain ⟨a1, h1, h⟩ := then_ok h
  obtain ⟨a2, h2, h⟩ := then_ok h
  obtain ⟨a3, h3, h⟩ := then_ok h
  obtain ⟨a4, h4, h⟩ := then_ok h
  obtain ⟨a5, h5, h⟩ := then_ok h
  obtain ⟨a6, h6, h⟩ := then_ok h
  obtain ⟨a7, h7, h⟩ := then_ok h
  obtain ⟨a8, h8, h⟩ := then_ok h
  obtain ⟨a9, h9, h⟩ := then_ok h
  obtain ⟨a10, h10, h⟩ := then_ok h
  obtain ⟨a11, h11, h⟩ := then_ok h
  have e1 := tok_rest h1
  have e2 := word_rest h2
  have e3 := tok_rest h3
  have e4 := word_rest h4
  have e5 := tok_rest h5
  have e6 := mode_rest h6
  have e7 := word_rest h7
  have e8 := tok_rest h8
  have e8' := nums_rest a8.2
  have e9 := sets_rest h9
  have e10 := sets_rest h10
  have e11 := word_rest h11
  cases h
  simp only
  omega
/- as much fuel as tokens is enough -/
theorem tasks_fuel : ∀ (n f : Nat) (L : List Tok), L.length ≤ n → L.length ≤ f → tasksP f L = tasksP n L
  | 0, f, L, hn, hf => by
    have : L = [] := List.eq_nil_of_length_eq_zero (by omega)
    subst this
    cases f with
    | zero => rfl
    | succ f => simp [tasksP, atEnd]
  | n + 1, 0, L, hn, hf => by
    have : L = [] := List.eq_nil_of_length_eq_zero (by omega)
    subst this
    simp [tasksP, atEnd]
  | n + 1, f + 1, L, hn, hf => by
    rw [tasksP, tasksP]
    split
    · rfl
    · cases hw : wordP wTask L with
      | error p => rfl
      | ok M =>
        have e1 := word_rest hw
        simp only [thenE]
        cases ht : taskP M with
        | error p => rfl
        | ok t =>
          have e2 := task_rest ht
          simp only
          rw [tasks_fuel n f t.2 (by omega) (by omega)]
/- a whole text, as the code goes -/
abbrev Placed := List (TaskV × Int)
def setX (x : Left) : Except (Int × Int) (Int × Placed) := thenE x setP
def tasksX (rl : Int) (acc : Placed) (y : Left) : Except (Int × Int) (Int × Placed) := thenE y fun L => thenE (tasksP L.length L) fun ts => .ok (rl, acc ++ ts)
theorem set_first (x : Left) : setX x = tasksX (takeT 2 (wordX wReload x)).n [] (wordX wSemi (goneP 2 (wordX wReload x))) := by
  show thenE x (fun L => setP L) = _
  simp only [setP]
  rw [then_word, then_tok]; dsimp only; rw [then_word]
  rfl
def headPos : Left → Int
  | .ok L => posOf L
  | .error _ => 0
theorem task_next {rl : Int} {acc : Placed} {t : TaskV} {y y' : Left} (hs : seesB wTask y = true) (ht : taskX y = thenE y' (fun L => .ok (t, L))) : tasksX rl acc y = tasksX rl (acc ++ [(t, headPos y)]) y' ∧ mea y' < mea y := by
  obtain ⟨u, r, rfl, hk, htx, hw⟩ := sees_word hs
  have hw' : wordP wTask (u :: r) = .ok r := hw
  have hnot : atEnd (u :: r) = false := by simp [atEnd, hk]
  have hx : taskX (.ok (u :: r)) = taskP r := by simp [taskX, thenE, hw']
  rw [hx] at ht
  have hX : tasksX rl acc (.ok (u :: r)) = thenE (taskP r) fun t => thenE (tasksP r.length t.2) fun ts => .ok (rl, acc ++ (t.1, u.pos) :: ts) := by
    simp only [tasksX, thenE, List.length_cons]
    rw [tasksP, if_neg (by rw [hnot]; decide), hw']
    simp only [thenE]
    cases taskP r with
    | error p => rfl
    | ok q =>
      simp only
      cases tasksP r.length q.2 <;> rfl
  rw [hX, ht]
  cases y' with
  | error p => simp [tasksX, thenE, mea]
  | ok M =>
    have hp : taskP r = .ok (t, M) := ht
    have hl := task_rest hp
    simp only at hl
    refine ⟨?_, by simp [mea]; omega⟩
    simp only [tasksX, thenE, headPos, posOf]
    rw [tasks_fuel M.length r.length M (Nat.le_refl _) hl]
    cases tasksP M.length M <;> simp
theorem task_last {rl : Int} {acc : Placed} {y : Left} (hs : seesB wTask y = false) (hne : ∀ L, y = .ok L → L ≠ []) : tasksX rl acc y = thenE (goneP 4 y) (fun _ => .ok (rl, acc)) := by
  cases y with
  | error p => rfl
  | ok L =>
    cases L with
    | nil => exact absurd rfl (hne [] rfl)
    | cons u r =>
      have hw : isWord wTask (u :: r) = false := hs
      cases hk : u.kind == 4
      · have hn : atEnd (u :: r) = false := hk
        simp [tasksX, thenE, tasksP, hn, wordP, hw, goneP, hk, posOf]
      · have hn : atEnd (u :: r) = true := hk
        simp [tasksX, thenE, tasksP, hn, goneP, hk]
end Go.Proofs.Ytfpaigcbjpolhaa.Lex
