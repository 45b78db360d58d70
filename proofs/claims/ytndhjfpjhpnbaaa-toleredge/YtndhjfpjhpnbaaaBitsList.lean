/- What the functions of package bits that make memory answer, and those of its reference: for all numbers; what was there stays as it was. -/
import Derived.Test.YtndhjfpjhpnbaaaBits
import Derived.Deep.QuietTactic
import Derived.BigQuiet
import Derived.OpenShut
namespace Go.Proofs.Ytndhjfpjhpnbaaa.Bits
set_option maxRecDepth 100000
open Go.ChangeShapes Go.WideShapes Go.RowKit

def ilTo (n k : Nat) : List Int := (blTo n k).map fun i : Nat => (i : Int)
def il (n : Nat) : List Int := ilTo n 64
theorem il_len (n : Nat) : (il n).length = pc 64 n := by simp [il, ilTo, len_blTo]
theorem ilTo_len (n k : Nat) : (ilTo n k).length ≤ k := by simp [ilTo, blTo_len]
theorem ilTo_yes (n k : Nat) (h : k < 64) (hb : hasB n k = true) : ilTo n (k + 1) = ilTo n k ++ [(k : Int)] := by
  have : n.testBit k = true := by simpa [hasB, isB_yes (show 0 ≤ (k : Int) by omega) (show (k : Int) < 64 by omega)] using hb
  simp [ilTo, blTo_succ, this]
theorem ilTo_no (n k : Nat) (h : k < 64) (hb : hasB n k = false) : ilTo n (k + 1) = ilTo n k := by
  have : n.testBit k = false := by simpa [hasB, isB_yes (show 0 ≤ (k : Int) by omega) (show (k : Int) < 64 by omega)] using hb
  simp [ilTo, blTo_succ, this]
theorem row_of_own {w : World} {base : Nat} {v : Value} {zs : List Int} {n : Nat} (hn : n = zs.length) (h : w.ownsRow base 3 1 v n (zs.map (Value.int .i64))) : Row w v zs := by
  subst hn
  have h' := h
  rcases h.2 with ⟨rfl, h0⟩ | ⟨g, cap, cur, rfl, _⟩
  · have : zs = [] := List.eq_nil_of_length_eq_zero h0
    subst this
    exact ⟨_, _, rfl, fun h => absurd rfl h⟩
  · refine ⟨_, _, rfl, fun _ => ⟨g, 0, rfl, fun j hj => ?_⟩⟩
    rw [Nat.zero_add, h'.cellAt j (by omega)]
    simp [List.getD, hj]
theorem rel_yes {B n k : Nat} {w wr w1 : World} {v v' : Value} {o : Obj} (hk : k < 64) (hb : hasB n k = true) (hB : B ≤ wr.heap.size)
    (hown : wr.ownsRow B 3 1 v (ilTo n k).length ((ilTo n k).map (Value.int .i64))) (hnx : Below B w wr)
    (hown' : w1.ownsRow B 3 1 v' ((ilTo n k).length + 1) ((ilTo n k).map (Value.int .i64) ++ [.int .i64 (k : Int)])) (hgrow : (wr.alloc o).grownBy w1 v.ownBlock) :
    w1.ownsRow B 3 1 v' (ilTo n (k + 1)).length ((ilTo n (k + 1)).map (Value.int .i64)) ∧ Below B w w1 :=
  ⟨by rw [ilTo_yes n k hk hb]; simpa using hown', (hnx.alloc hB o).grown hgrow (by simp; omega) (fun j hj => (hown.lt j hj).1)⟩
theorem Try.info_int : (Try.prog.info? 3).map (fun i => (i.zero, i.size, i.bytes)) = some (some (.int .i64 0), 1, 8) := by kernel_rfl

set_option maxHeartbeats 1600000 in
set_option maxRecDepth 1000000 in
theorem rlist_any (x : Int) (w : World) (x0 : 0 ≤ x) (hx : x < 18446744073709551616) : Calls Try.prog 49 #[.int .u64 x] w fun e w' =>
    ∃ v, e = .returned v ∧ w'.ownsRow w.heap.size 3 1 v (il x.toNat).length ((il x.toNat).map (Value.int .i64)) ∧ Below w.heap.size w w' := by
  obtain ⟨i0, hi, hz0, hz1, hz2⟩ := info_parts Try.info_int
  go_enter Try.func49, Try.ntmps49
  go_wp2
  go_loopw [3, 4] (fun v i wr => ∃ k : Nat, k ≤ 64 ∧ i = .int .i64 k ∧ wr.ownsRow w.heap.size 3 1 v (ilTo x.toNat k).length ((ilTo x.toNat k).map (Value.int .i64)) ∧ Below w.heap.size w wr)
    (fun _ i _ => 64 - (intOf i).toNat)
  case atStart => exact ⟨0, Nat.zero_le _, rfl, World.ownsRow_nil _ _ _ _, Below.refl _ _⟩
  case round =>
    obtain ⟨k, hk, rfl, hown, hnx⟩ := hrel
    have hkl := ilTo_len x.toNat k
    by_cases hlt : k < 64
    · cases hb : hasB x.toNat k
      · have R := ilTo_no x.toNat k hlt hb
        have HR := hide R
        clear R
        go_wp2_with (go_at_call 64; refine (rhas_any _ _ _ x0 hx).mono ?_; rintro e w' ⟨rfl, rfl⟩)
        go_roundw
        case rel => exact ⟨k + 1, by omega, by go_num, by rw [unhide HR]; exact hown, hnx⟩
        case measure => simp [intOf]; omega
      · go_wp2_with (first
          | (at_builtin; refine wpList_append_own _ rfl _ _ 71 rfl w.heap.size 3 i0 (.int .i64 0) 1 8 (by kernel_rfl) hi hz0 hz1 hz2 rfl (by decide) _ _ _ rfl (hown.alloc _) ⟨wr.heap.size, 0, none⟩ 1 1 [.int .i64 k] rfl rfl ?c1 ?c2 ?c3 ?c4 ?c5 ?_)
          | (go_at_call 64; refine (rhas_any _ _ _ x0 hx).mono ?_; rintro e w' ⟨rfl, hw⟩; rw [hw]; clear hw w'))
        case c1 =>
          intro j u hj
          match j, hj with
          | 0, hj => simp at hj; subst hj; simp [Addr.add]
        case c2 => intro u hu; simp at hu; subst hu; rfl
        case c3 => unfold maxLen; omega
        case c4 => omega
        case c5 => have := hnx.size; simp; omega
        intro v' w1 hown' hgrow _
        have R := rel_yes hlt hb hnx.size hown hnx hown' hgrow
        clear hown' hgrow hown
        go_wp2
        go_roundw
        case rel => exact ⟨k + 1, by omega, by go_num, R.1, R.2⟩
        case measure => simp [intOf]; omega
    · go_wp2
      go_ret
      have hk64 : k = 64 := by omega
      subst hk64
      exact ⟨_, rfl, hown, hnx⟩

/- two rows of numbers -/
theorem Row.below {w w' : World} {v : Value} {zs : List Int} (h : Row w v zs) (hb : Below w.heap.size w w') : Row w' v zs := by
  obtain ⟨ao, cap, rfl, hc⟩ := h
  refine ⟨ao, cap, rfl, fun e => ?_⟩
  obtain ⟨b, off, rfl, hcc⟩ := hc e
  refine ⟨b, off, rfl, fun j hj => ?_⟩
  have h1 := hcc j hj
  rw [hb.cell (World.block_lt_of_cell? w _ h1)]
  exact h1
theorem u64_wf {a : Int} (h : (Lit.int .u64 a).wf = true) : 0 ≤ a ∧ a < 18446744073709551616 := by
  have := bounds_u64 h
  omega
theorem bel_drewN {B : Nat} {a w : World} (h : Below B a w) (n : Nat) : Below B a (w.drewN n) := h.trans ⟨rfl, rfl, rfl, Nat.le_refl _, fun _ _ => rfl⟩
theorem il_zero : il 0 = [] := by simp [il, ilTo, blTo]
theorem il_head (n : Nat) (h0 : n ≠ 0) (h : n < 18446744073709551616) : ∃ r, il n = ((Lib.ctz 64 n : Nat) : Int) :: r := by
  obtain ⟨r, hr⟩ := bl_ctz n h0 h
  exact ⟨r.map fun i : Nat => (i : Int), by show ((bl n).map fun i : Nat => (i : Int)) = _; rw [hr]; rfl⟩
theorem il_max (n : Nat) : (il n).length ≤ maxLen := by
  have := ilTo_len n 64
  unfold il maxLen
  omega
theorem ofN_il (n : Nat) (h : n < 18446744073709551616) : ofN (il n) = n := ofN_bl n h
theorem ofN_il2 (x y : Nat) (hx : x < 18446744073709551616) (hy : y < 18446744073709551616) : ofN (il x ++ il y) = x ||| y := by
  have := ofN_two x y hx hy
  rw [List.map_append] at this
  exact this
theorem wpList_append_when {P : Program} (w : World) {ops : Array Oper} {rest : List Oper} {o : Oper} {a : Act} {Q : Exit → Act → World → Prop} (hgd : Region.wanted o (yielded ops a.tmps) = true) (s x : Operand) (t : TypeId)
    (ho : o.op = .call { callee := .builtin .append, args := #[s, x], argTypes := #[t, t] })
    (base : Nat) (e : TypeId) (i : TypeInfo) (z : Value) (size bytes : Nat) (ht : P.underlying t = some (.slice e)) (hi : P.info? e = some i) (hz : i.zero = some z)
    (hsize : i.size = size) (hby : i.bytes = bytes) (hzs : z.cells.size = size) (hsz : 0 < size)
    (v : Value) (n : Nat) (xs : List Value) (hs : a.eval s = v) (hown : w.ownsRow base e size v n xs)
    (ad : Addr) (m c : Nat) (news : List Value) (hx : a.eval x = .slice (some ad) m c) (hl : news.length = m * size) (hnews : ∀ j u, news[j]? = some u → w.cell? (ad.add j) = some u) (h1 : ∀ u ∈ news, u.oneCell' = true)
    (h63 : n + m ≤ maxLen) (hbytes : (n + m) * bytes ≤ 140737488355328) (hbase : base ≤ w.heap.size)
    (h : ∀ v' w', w'.ownsRow base e size v' (n + m) (xs ++ news) → w.grownBy w' v.ownBlock → wpList P ops Q rest (a.put o.dst v') w') : wpList P ops Q (o :: rest) a w :=
  wpList_step fun K hK => by
    rw [if_pos hgd]
    exact wp_append_own w s x t ho base e i z size bytes ht hi hz hsize hby hzs hsz v n xs hs hown ad m c news hx hl hnews h1 h63 hbytes hbase fun v' w' h2 h3 _ => hK _ _ (h v' w' h2 h3)
theorem own_shape {w : World} {base : Nat} {v : Value} {n : Nat} {xs : List Value} (h : w.ownsRow base 3 1 v n xs) (hne : v ≠ .slice none 0 0) :
    ∃ g cap, v = .slice (some ⟨g, 0, none⟩) n cap ∧ ∀ j u, xs[j]? = some u → w.cell? ((⟨g, 0, none⟩ : Addr).add j) = some u := by
  rcases h.2 with ⟨rfl, _⟩ | ⟨g, cap, cur, rfl, _⟩
  · exact absurd rfl hne
  · exact ⟨g, cap, rfl, h.cells rfl⟩
theorem ctz_two_pow (k : Nat) (h : k < 64) : Lib.ctz 64 (2 ^ k) = k := by
  have hlt : 2 ^ k < 2 ^ 64 := Nat.pow_lt_pow_right (by decide) h
  have hpos : 0 < 2 ^ k := Nat.two_pow_pos k
  obtain ⟨r, hr⟩ := bl_ctz (2 ^ k) (by omega) hlt
  have hm : Lib.ctz 64 (2 ^ k) ∈ bl (2 ^ k) := by rw [hr]; simp
  have := (mem_bl _ _).1 hm
  rw [Nat.testBit_two_pow] at this
  exact (by simpa using this.2 : k = Lib.ctz 64 (2 ^ k)).symm
theorem has_two_pow (k : Nat) (h : k < 64) : hasB (2 ^ k) (k : Int) = true := by
  simp [hasB, isB_yes (show 0 ≤ (k : Int) by omega) (show (k : Int) < 64 by omega)]
def lastI (L : List Int) (k : Nat) : Int := if k = 0 then -1 else L.getD (k - 1) 0
theorem lastI_succ (L : List Int) (k : Nat) : lastI L (k + 1) = L.getD k 0 := by simp [lastI]
theorem il_at (n k : Nat) (h : k < (il n).length) : ∃ j : Nat, (il n).getD k 0 = (j : Int) ∧ j ∈ bl n := by
  have hk : k < (bl n).length := by rw [il_len] at h; rw [len_bl]; exact h
  refine ⟨(bl n)[k], ?_, List.getElem_mem hk⟩
  show ((bl n).map fun i : Nat => (i : Int)).getD k 0 = _
  simp [List.getD, hk]
theorem il_rise (n k : Nat) (h : k < (il n).length) : lastI (il n) k < (il n).getD k 0 := by
  by_cases h0 : k = 0
  · subst h0
    obtain ⟨j, hj, _⟩ := il_at n 0 h
    rw [hj]
    simp [lastI]
    omega
  · have hk : k < (bl n).length := by rw [il_len] at h; rw [len_bl]; exact h
    have hp := List.pairwise_iff_getElem.1 (bl_sorted n) (k - 1) k (by omega) hk (by omega)
    rw [lastI, if_neg h0]
    show ((bl n).map fun i : Nat => (i : Int)).getD (k - 1) 0 < ((bl n).map fun i : Nat => (i : Int)).getD k 0
    simp [List.getD, hk, show k - 1 < (bl n).length by omega]
    exact hp
theorem il_has (n k : Nat) (h : k < (il n).length) : hasB n ((il n).getD k 0) = true := by
  obtain ⟨j, hj, hm⟩ := il_at n k h
  obtain ⟨h1, h2⟩ := (mem_bl n j).1 hm
  rw [hj]
  simp [hasB, isB_yes (show 0 ≤ (j : Int) by omega) (show (j : Int) < 64 by omega), h2]
theorem own_below {w w' : World} {base : Nat} {v : Value} {n : Nat} {xs : List Value} (h : w.ownsRow base 3 1 v n xs) (hb : Below w.heap.size w w') : w'.ownsRow base 3 1 v n xs := by
  refine ⟨h.1, ?_⟩
  rcases h.2 with hn | ⟨g, cap, cur, rfl, hbb, hgg, rest⟩
  · exact .inl hn
  · refine .inr ⟨g, cap, cur, rfl, hbb, ?_, rest⟩
    rw [hb.block g (Array.getElem?_eq_some_iff.1 hgg).1]
    exact hgg
end Go.Proofs.Ytndhjfpjhpnbaaa.Bits
