/- What the functions of package cost that make no memory answer, and those of its reference: for all complex numbers; each leaves the world as it was. No conditions but those that each theorem bears. -/
import Derived.Test.YtndhjfpjhpnbaaaNumRef
import Derived.Test.YtndhjfpjhpnbaaaCostWord
namespace Go.Proofs.Ytndhjfpjhpnbaaa.Cost
set_option maxRecDepth 100000
open Go.ChangeShapes Go.WideShapes Go.RowKit Go.Proofs.Ytndhjfpjhpnbaaa.Num Ieee

theorem hide {p : Prop} (h : p) : Hid p := h
theorem unhide {p : Prop} (h : Hid p) : p := h.out

theorem Try.cv_int {x : Nat} {n : Int} (h : floatToIntVal .f64 x .i64 = some n) (w : World) : (convert 95 2 (.float .f64 x)).run Try.prog w = .ok (.int .i64 n) w :=
  run_convert_float_int w 95 2 .f64 .i64 x n (by rw [Try.underlying95]; rfl) Try.underlying2 h
theorem Try.cv_float (n : Int) (w : World) : (convert 2 95 (.int .i64 n)).run Try.prog w = .ok (.float .f64 (floatOfInt .f64 n)) w :=
  run_convert_int_float w 2 95 .i64 .f64 n (by rw [Try.underlying2]; rfl) Try.underlying95

theorem whole_any (x : Nat) (w : World) : Calls Try.prog 86 #[.float .f64 x] w fun e w' => e = .returned (.bool (wholeB x)) ∧ w' = w := by
  cases hl : loB x
  · have h1 : (FloatKind.f64.format.order 0 x == some .lt || FloatKind.f64.format.order 0 x == some .eq) = false := hl
    have hr : Hid (wholeB x = false) := by show wholeB x = false; simp [wholeB, hl]
    clear hl
    go_enter Try.func86, Try.ntmps86
    go_wp2
    go_ret
    exact ⟨ret_bool (unhide hr).symm, rfl⟩
  · cases hh : hiB x
    · have h1 : (FloatKind.f64.format.order 0 x == some .lt || FloatKind.f64.format.order 0 x == some .eq) = true := hl
      have h2 : (FloatKind.f64.format.order x 4787326403894837248 == some .lt || FloatKind.f64.format.order x 4787326403894837248 == some .eq) = false := hh
      have hr : Hid (wholeB x = false) := by show wholeB x = false; simp [wholeB, hh]
      clear hl hh
      go_enter Try.func86, Try.ntmps86
      go_wp2
      go_ret
      exact ⟨ret_bool (unhide hr).symm, rfl⟩
    · have h1 : (FloatKind.f64.format.order 0 x == some .lt || FloatKind.f64.format.order 0 x == some .eq) = true := hl
      have h2 : (FloatKind.f64.format.order x 4787326403894837248 == some .lt || FloatKind.f64.format.order x 4787326403894837248 == some .eq) = true := hh
      have hv := Try.cv_int (range_val hl hh)
      have hr : Hid (wholeB x = (double.order x (floatOfInt .f64 (tr x)) == some .eq)) := by show wholeB x = _; simp [wholeB, hl, hh]
      generalize tr x = n at *
      clear hl hh
      go_enter Try.func86, Try.ntmps86
      go_wp2_with (simp only [hv])
      go_ret
      exact ⟨ret_bool (unhide hr).symm, rfl⟩

def costB (x y : Nat) : Bool := wholeB x && wholeB y
def workV (x y : Nat) : Int := if costB x y then tr x else 0
def againV (x y : Nat) : Int := if costB x y then tr y else 0
def partV (x : Nat) : Int := if wholeB x then tr x else 0
theorem cost_yes {x y : Nat} (h : costB x y = true) : wholeB x = true ∧ wholeB y = true := by simpa [costB] using h
theorem cost_tr {x y : Nat} (h : costB x y = true) : (0 ≤ tr x ∧ tr x ≤ 1099511627776) ∧ 0 ≤ tr y ∧ tr y ≤ 1099511627776 :=
  ⟨(whole_yes (cost_yes h).1).2, (whole_yes (cost_yes h).2).2⟩
theorem workV_yes {x y : Nat} (h : costB x y = true) : workV x y = tr x := by simp [workV, h]
theorem againV_yes {x y : Nat} (h : costB x y = true) : againV x y = tr y := by simp [againV, h]
theorem workV_no {x y : Nat} (h : costB x y = false) : workV x y = 0 := by simp [workV, h]
theorem againV_no {x y : Nat} (h : costB x y = false) : againV x y = 0 := by simp [againV, h]
theorem ret_int {a b : Int} (h : a = b) : Ending.returned (.int .i64 a) = .returned (.int .i64 b) := by rw [h]
theorem ret_three {a b c d : Int} {p q : Bool} (h : a = c) (g : b = d) (f : p = q) : Ending.returned (.tuple #[.int .i64 a, .int .i64 b, .bool p]) = .returned (.tuple #[.int .i64 c, .int .i64 d, .bool q]) := by rw [h, g, f]
theorem ret_cb {a b c d : Nat} {p q : Bool} (h : a = c) (g : b = d) (f : p = q) : Ending.returned (.tuple #[.complex .f64 a b, .bool p]) = .returned (.tuple #[.complex .f64 c d, .bool q]) := by rw [h, g, f]

theorem cis_any (x y : Nat) (w : World) : Calls Try.prog 78 #[.complex .f64 x y] w fun e w' => e = .returned (.bool (costB x y)) ∧ w' = w := by
  have H : Hid (costB x y = (wholeB x && wholeB y)) := rfl
  cases hx : wholeB x
  · go_enter Try.func78, Try.ntmps78
    go_wp2_with (go_at_call 86; refine (whole_any _ _).mono ?_; rintro e w' ⟨rfl, rfl⟩)
    go_ret
    exact ⟨ret_bool (by rw [unhide H, hx]; rfl), rfl⟩
  · go_enter Try.func78, Try.ntmps78
    go_wp2_with (go_at_call 86; refine (whole_any _ _).mono ?_; rintro e w' ⟨rfl, rfl⟩)
    go_ret
    exact ⟨ret_bool (by rw [unhide H, hx]; rfl), rfl⟩

theorem work_any (x y : Nat) (w : World) : Calls Try.prog 80 #[.complex .f64 x y] w fun e w' => e = .returned (.int .i64 (workV x y)) ∧ w' = w := by
  cases h : costB x y
  · have hr : Hid (workV x y = 0) := workV_no h
    go_enter Try.func80, Try.ntmps80
    go_wp2_with (go_at_call 78; refine (cis_any _ _ _).mono ?_; rintro e w' ⟨rfl, rfl⟩)
    go_ret
    exact ⟨ret_int (unhide hr).symm, rfl⟩
  · have hr : Hid (workV x y = tr x) := workV_yes h
    have hv := Try.cv_int (whole_val (cost_yes h).1)
    generalize tr x = n at *
    go_enter Try.func80, Try.ntmps80
    go_wp2_with (go_at_call 78; refine (cis_any _ _ _).mono ?_; rintro e w' ⟨rfl, rfl⟩)
    go_ret
    exact ⟨ret_int (unhide hr).symm, rfl⟩
theorem again_any (x y : Nat) (w : World) : Calls Try.prog 81 #[.complex .f64 x y] w fun e w' => e = .returned (.int .i64 (againV x y)) ∧ w' = w := by
  cases h : costB x y
  · have hr : Hid (againV x y = 0) := againV_no h
    go_enter Try.func81, Try.ntmps81
    go_wp2_with (go_at_call 78; refine (cis_any _ _ _).mono ?_; rintro e w' ⟨rfl, rfl⟩)
    go_ret
    exact ⟨ret_int (unhide hr).symm, rfl⟩
  · have hr : Hid (againV x y = tr y) := againV_yes h
    have hv := Try.cv_int (whole_val (cost_yes h).2)
    generalize tr y = n at *
    go_enter Try.func81, Try.ntmps81
    go_wp2_with (go_at_call 78; refine (cis_any _ _ _).mono ?_; rintro e w' ⟨rfl, rfl⟩)
    go_ret
    exact ⟨ret_int (unhide hr).symm, rfl⟩

/- a cost of two numbers -/
def ofRe (a b : Int) : Nat := if areB a b then F a else 0
def ofIm (a b : Int) : Nat := if areB a b then F b else 0
theorem of_words {a b : Int} (h : areB a b = true) : floatOfInt .f64 a = ofRe a b ∧ floatOfInt .f64 b = ofIm a b := by
  obtain ⟨⟨h1, h2⟩, h3, h4⟩ := (areB_iff a b).1 h
  simp only [ofRe, ofIm, h, if_true]
  exact ⟨floatOfInt_F a (by omega), floatOfInt_F b (by omega)⟩
theorem of_any (a b : Int) (w : World) : Calls Try.prog 76 #[.int .i64 a, .int .i64 b] w fun e w' => e = .returned (.tuple #[.complex .f64 (ofRe a b) (ofIm a b), .bool (areB a b)]) ∧ w' = w := by
  have H : Hid (areB a b = (isB a && isB b)) := rfl
  cases h : areB a b
  · have h1 : Hid (ofRe a b = 0) := by show ofRe a b = 0; simp [ofRe, h]
    have h2 : Hid (ofIm a b = 0) := by show ofIm a b = 0; simp [ofIm, h]
    have h3 : isB a = false ∨ isB b = false := Bool.and_eq_false_iff.1 (by rw [H.out] at h; exact h)
    rcases h3 with h3 | h3
    · clear h
      go_enter Try.func76, Try.ntmps76
      go_wp2_with (go_at_call 83; refine (is_any _ _).mono ?_; rintro e w' ⟨rfl, rfl⟩)
      go_ret2
      exact ⟨ret_cb (unhide h1).symm (unhide h2).symm rfl, rfl⟩
    · cases h4 : isB a
      · clear h
        go_enter Try.func76, Try.ntmps76
        go_wp2_with (go_at_call 83; refine (is_any _ _).mono ?_; rintro e w' ⟨rfl, rfl⟩)
        go_ret2
        exact ⟨ret_cb (unhide h1).symm (unhide h2).symm rfl, rfl⟩
      · clear h
        go_enter Try.func76, Try.ntmps76
        go_wp2_with (go_at_call 83; refine (is_any _ _).mono ?_; rintro e w' ⟨rfl, rfl⟩)
        go_ret2
        exact ⟨ret_cb (unhide h1).symm (unhide h2).symm rfl, rfl⟩
  · have h1 : Hid (floatOfInt .f64 a = ofRe a b) := (of_words h).1
    have h2 : Hid (floatOfInt .f64 b = ofIm a b) := (of_words h).2
    have h3 : isB a = true := by rw [H.out] at h; simp at h; exact h.1
    have h4 : isB b = true := by rw [H.out] at h; simp at h; exact h.2
    clear h
    go_enter Try.func76, Try.ntmps76
    go_wp2_with (go_at_call 83; refine (is_any _ _).mono ?_; rintro e w' ⟨rfl, rfl⟩)
    go_ret2
    exact ⟨ret_cb (unhide h1) (unhide h2) rfl, rfl⟩
/- both parts together -/
def totB (x y : Nat) : Bool := costB x y && addB (tr x) (tr y)
def totV (x y : Nat) : Int := if totB x y then tr x + tr y else 0
theorem tot_any (x y : Nat) (w : World) : Calls Try.prog 71 #[.complex .f64 x y] w fun e w' => e = .returned (.tuple #[.int .i64 (totV x y), .bool (totB x y)]) ∧ w' = w := by
  cases h : costB x y
  · have hB : Hid (totB x y = false) := by show totB x y = false; simp [totB, h]
    have hV : Hid (totV x y = 0) := by show totV x y = 0; simp [totV, hB.out]
    go_enter Try.func71, Try.ntmps71
    go_wp2_with (go_at_call 78; refine (cis_any _ _ _).mono ?_; rintro e w' ⟨rfl, rfl⟩)
    go_ret2
    exact ⟨ret_two (unhide hV).symm (unhide hB).symm, rfl⟩
  · have hB : Hid (totB x y = addB (workV x y) (againV x y)) := by show totB x y = _; rw [workV_yes h, againV_yes h]; simp [totB, h]
    have hV : Hid (totV x y = addV (workV x y) (againV x y)) := by show totV x y = _; rw [totV, hB.out, addV, workV_yes h, againV_yes h]
    go_enter Try.func71, Try.ntmps71
    go_wp2_with (first
      | (go_at_call 78; refine (cis_any _ _ _).mono ?_; rintro e w' ⟨rfl, rfl⟩)
      | (go_at_call 80; refine (work_any _ _ _).mono ?_; rintro e w' ⟨rfl, rfl⟩)
      | (go_at_call 81; refine (again_any _ _ _).mono ?_; rintro e w' ⟨rfl, rfl⟩)
      | (go_at_call 79; refine (add_any _ _ _).mono ?_; rintro e w' ⟨rfl, rfl⟩))
    go_ret2
    exact ⟨ret_two (unhide hV).symm (unhide hB).symm, rfl⟩
/- the greater one -/
theorem both_rep {x y r : Nat} (h : costB x y = true) (hr : Ieee.double.add x y = some r) : Rep (double.read r) (tr x + tr y) := by
  obtain ⟨⟨a0, a1⟩, b0, b1⟩ := cost_tr h
  obtain ⟨r', h1, h2, _⟩ := add_word (whole_yes (cost_yes h).1).1 (whole_yes (cost_yes h).2).1 (by omega)
  rw [hr] at h1
  cases h1
  exact h2
def moreP (x y x' y' : Nat) : Nat × Nat := if costB x y then (if costB x' y' then (if tr x + tr y < tr x' + tr y' then (x', y') else (x, y)) else (x, y)) else if costB x' y' then (x', y') else (0, 0)
theorem ret_c {a b : Nat} {p : Nat × Nat} (h : p = (a, b)) : Ending.returned (.complex .f64 a b) = .returned (.complex .f64 p.1 p.2) := by rw [h]
/- what a cost of two numbers is -/
theorem whole_F {n : Int} (h : isB n = true) : wholeB (F n) = true ∧ tr (F n) = n := by
  obtain ⟨h0, h1⟩ := (isB_iff n).1 h
  have hn : n.natAbs < 9007199254740992 := by omega
  exact ⟨by rw [whole_rep (read_F n hn) hn]; simp [h0, h1], tr_rep (read_F n hn)⟩
theorem cost_F {a b : Int} (h : areB a b = true) : costB (F a) (F b) = true ∧ tr (F a) = a ∧ tr (F b) = b := by
  have ha : isB a = true := by simp [areB] at h; exact h.1
  have hb : isB b = true := by simp [areB] at h; exact h.2
  exact ⟨by simp [costB, (whole_F ha).1, (whole_F hb).1], (whole_F ha).2, (whole_F hb).2⟩
theorem ofRe_yes {a b : Int} (h : areB a b = true) : ofRe a b = F a := by simp [ofRe, h]
theorem ofIm_yes {a b : Int} (h : areB a b = true) : ofIm a b = F b := by simp [ofIm, h]
theorem work_F {a b : Int} (h : areB a b = true) : workV (F a) (F b) = a := by rw [workV_yes (cost_F h).1, (cost_F h).2.1]
theorem again_F {a b : Int} (h : areB a b = true) : againV (F a) (F b) = b := by rw [againV_yes (cost_F h).1, (cost_F h).2.2]
theorem totB_F {a b : Int} (h : areB a b = true) : totB (F a) (F b) = addB a b := by simp [totB, (cost_F h).1, (cost_F h).2.1, (cost_F h).2.2]
theorem totV_F {a b : Int} (h : areB a b = true) : totV (F a) (F b) = addV a b := by rw [totV, totB_F h, (cost_F h).2.1, (cost_F h).2.2, addV]
theorem order_FF (a b : Int) (ha : a.natAbs < 9007199254740992) (hb : b.natAbs < 9007199254740992) : (FloatKind.f64.format.order (F a) (F b) == some .eq) = decide (a = b) := by
  show (((double.read (F a)).order (double.read (F b))) == some Ordering.eq) = _
  rw [order_rep (read_F a ha) (read_F b hb), compare_eq]
theorem order_refl {x : Nat} {n : Int} (h : Rep (double.read x) n) : (FloatKind.f64.format.order x x == some .eq) = true := by
  show (((double.read x).order (double.read x)) == some Ordering.eq) = _
  rw [order_rep h h, compare_eq]; simp

theorem more_self {x y x' y' : Nat} {a b c d : Int} (h0 : Rep (double.read x) a) (h1 : Rep (double.read y) b) (h2 : Rep (double.read x') c) (h3 : Rep (double.read y') d) :
    (FloatKind.f64.format.order (moreP x y x' y').1 (moreP x y x' y').1 == some .eq) = true ∧ (FloatKind.f64.format.order (moreP x y x' y').2 (moreP x y x' y').2 == some .eq) = true := by
  unfold moreP
  split
  · split
    · split
      · exact ⟨order_refl h2, order_refl h3⟩
      · exact ⟨order_refl h0, order_refl h1⟩
    · exact ⟨order_refl h0, order_refl h1⟩
  · split
    · exact ⟨order_refl h2, order_refl h3⟩
    · exact ⟨order_refl rep_zero, order_refl rep_zero⟩

theorem are34 : areB 3 4 = true := by decide
theorem k_ofRe : ofRe 3 4 = F 3 := ofRe_yes are34
theorem k_ofIm : ofIm 3 4 = F 4 := ofIm_yes are34
theorem k_work : workV (F 3) (F 4) = 3 := work_F are34
theorem k_again : againV (F 3) (F 4) = 4 := again_F are34
theorem k_totB : totB (F 3) (F 4) = true := by rw [totB_F are34]; decide
theorem k_totV : totV (F 3) (F 4) = 7 := by rw [totV_F are34]; decide
end Go.Proofs.Ytndhjfpjhpnbaaa.Cost
