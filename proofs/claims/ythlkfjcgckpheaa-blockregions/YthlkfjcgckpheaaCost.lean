/- What the functions of package cost that make no memory answer, and those of its reference: for all complex numbers; each leaves the world as it was. No conditions but those that each theorem bears. -/
import Derived.Test.YthlkfjcgckpheaaNumRef
import Derived.Test.YthlkfjcgckpheaaCostWord
namespace Go.Proofs.Ythlkfjcgckpheaa.Cost
open Go.ChangeShapes Go.WideShapes Go.RowKit Go.Proofs.Ythlkfjcgckpheaa.Num Ieee

theorem hide {p : Prop} (h : p) : Hid p := h
theorem unhide {p : Prop} (h : Hid p) : p := h.out

def costB (x y : Nat) : Bool := wholeB x && wholeB y
def workV (x y : Nat) : Int := if costB x y then tr x else 0
def againV (x y : Nat) : Int := if costB x y then tr y else 0
def partV (x : Nat) : Int := if wholeB x then tr x else 0
theorem cost_yes {x y : Nat} (h : costB x y = true) : wholeB x = true ∧ wholeB y = true := by simpa [costB] using h
theorem cost_tr {x y : Nat} (h : costB x y = true) : (0 ≤ tr x ∧ tr x ≤ 1099511627776) ∧ 0 ≤ tr y ∧ tr y ≤ 1099511627776 :=
  ⟨(whole_yes (cost_yes h).1).2, (whole_yes (cost_yes h).2).2⟩
theorem workV_yes {x y : Nat} (h : costB x y = true) : workV x y = tr x := by simp [workV, h]
theorem againV_yes {x y : Nat} (h : costB x y = true) : againV x y = tr y := by simp [againV, h]
theorem workV_no {x y : Nat} (h : costB x y = false) : workV x y = 0 := by simp [workV, h]
theorem againV_no {x y : Nat} (h : costB x y = false) : againV x y = 0 := by simp [againV, h]
theorem ret_int {a b : Int} (h : a = b) : Ending.returned (.int .i64 a) = .returned (.int .i64 b) := by rw [h]
theorem ret_three {a b c d : Int} {p q : Bool} (h : a = c) (g : b = d) (f : p = q) : Ending.returned (.tuple #[.int .i64 a, .int .i64 b, .bool p]) = .returned (.tuple #[.int .i64 c, .int .i64 d, .bool q]) := by rw [h, g, f]
theorem ret_cb {a b c d : Nat} {p q : Bool} (h : a = c) (g : b = d) (f : p = q) : Ending.returned (.tuple #[.complex .f64 a b, .bool p]) = .returned (.tuple #[.complex .f64 c d, .bool q]) := by rw [h, g, f]

/- a cost of two numbers -/
def ofRe (a b : Int) : Nat := if areB a b then F a else 0
def ofIm (a b : Int) : Nat := if areB a b then F b else 0
theorem of_words {a b : Int} (h : areB a b = true) : floatOfInt .f64 a = ofRe a b ∧ floatOfInt .f64 b = ofIm a b := by
  obtain ⟨⟨h1, h2⟩, h3, h4⟩ := (areB_iff a b).1 h
  simp only [ofRe, ofIm, h, if_true]
  exact ⟨floatOfInt_F a (by omega), floatOfInt_F b (by omega)⟩
/- both parts together -/
def totB (x y : Nat) : Bool := costB x y && addB (tr x) (tr y)
def totV (x y : Nat) : Int := if totB x y then tr x + tr y else 0
/- the greater one -/
theorem both_rep {x y r : Nat} (h : costB x y = true) (hr : Ieee.double.add x y = some r) : Rep (double.read r) (tr x + tr y) := by
  obtain ⟨⟨a0, a1⟩, b0, b1⟩ := cost_tr h
  obtain ⟨r', h1, h2, _⟩ := add_word (whole_yes (cost_yes h).1).1 (whole_yes (cost_yes h).2).1 (by omega)
  rw [hr] at h1
  cases h1
  exact h2
def moreP (x y x' y' : Nat) : Nat × Nat := if costB x y then (if costB x' y' then (if tr x + tr y < tr x' + tr y' then (x', y') else (x, y)) else (x, y)) else if costB x' y' then (x', y') else (0, 0)
theorem ret_c {a b : Nat} {p : Nat × Nat} (h : p = (a, b)) : Ending.returned (.complex .f64 a b) = .returned (.complex .f64 p.1 p.2) := by rw [h]
/- what a cost of two numbers is -/
theorem whole_F {n : Int} (h : isB n = true) : wholeB (F n) = true ∧ tr (F n) = n := by
  obtain ⟨h0, h1⟩ := (isB_iff n).1 h
  have hn : n.natAbs < 9007199254740992 := by omega
  exact ⟨by rw [whole_rep (read_F n hn) hn]; simp [h0, h1], tr_rep (read_F n hn)⟩
theorem cost_F {a b : Int} (h : areB a b = true) : costB (F a) (F b) = true ∧ tr (F a) = a ∧ tr (F b) = b := by
  have ha : isB a = true := by simp [areB] at h; exact h.1
  have hb : isB b = true := by simp [areB] at h; exact h.2
  exact ⟨by simp [costB, (whole_F ha).1, (whole_F hb).1], (whole_F ha).2, (whole_F hb).2⟩
theorem ofRe_yes {a b : Int} (h : areB a b = true) : ofRe a b = F a := by simp [ofRe, h]
theorem ofIm_yes {a b : Int} (h : areB a b = true) : ofIm a b = F b := by simp [ofIm, h]
theorem work_F {a b : Int} (h : areB a b = true) : workV (F a) (F b) = a := by rw [workV_yes (cost_F h).1, (cost_F h).2.1]
theorem again_F {a b : Int} (h : areB a b = true) : againV (F a) (F b) = b := by rw [againV_yes (cost_F h).1, (cost_F h).2.2]
theorem totB_F {a b : Int} (h : areB a b = true) : totB (F a) (F b) = addB a b := by simp [totB, (cost_F h).1, (cost_F h).2.1, (cost_F h).2.2]
theorem totV_F {a b : Int} (h : areB a b = true) : totV (F a) (F b) = addV a b := by rw [totV, totB_F h, (cost_F h).2.1, (cost_F h).2.2, addV]
theorem order_FF (a b : Int) (ha : a.natAbs < 9007199254740992) (hb : b.natAbs < 9007199254740992) : (FloatKind.f64.format.order (F a) (F b) == some .eq) = decide (a = b) := by
  show (((double.read (F a)).order (double.read (F b))) == some Ordering.eq) = _
  rw [order_rep (read_F a ha) (read_F b hb), compare_eq]
theorem order_refl {x : Nat} {n : Int} (h : Rep (double.read x) n) : (FloatKind.f64.format.order x x == some .eq) = true := by
  show (((double.read x).order (double.read x)) == some Ordering.eq) = _
  rw [order_rep h h, compare_eq]; simp

theorem more_self {x y x' y' : Nat} {a b c d : Int} (h0 : Rep (double.read x) a) (h1 : Rep (double.read y) b) (h2 : Rep (double.read x') c) (h3 : Rep (double.read y') d) :
    (FloatKind.f64.format.order (moreP x y x' y').1 (moreP x y x' y').1 == some .eq) = true ∧ (FloatKind.f64.format.order (moreP x y x' y').2 (moreP x y x' y').2 == some .eq) = true := by
  unfold moreP
  split
  · split
    · split
      · exact ⟨order_refl h2, order_refl h3⟩
      · exact ⟨order_refl h0, order_refl h1⟩
    · exact ⟨order_refl h0, order_refl h1⟩
  · split
    · exact ⟨order_refl h2, order_refl h3⟩
    · exact ⟨order_refl rep_zero, order_refl rep_zero⟩

theorem are34 : areB 3 4 = true := by decide
theorem k_ofRe : ofRe 3 4 = F 3 := ofRe_yes are34
theorem k_ofIm : ofIm 3 4 = F 4 := ofIm_yes are34
theorem k_work : workV (F 3) (F 4) = 3 := work_F are34
theorem k_again : againV (F 3) (F 4) = 4 := again_F are34
theorem k_totB : totB (F 3) (F 4) = true := by rw [totB_F are34]; decide
theorem k_totV : totV (F 3) (F 4) = 7 := by rw [totV_F are34]; decide
end Go.Proofs.Ythlkfjcgckpheaa.Cost
