/- Chapter 14: what the document's own functions answer. -/
import Derived.Test.YtndhjfpjhpnbaaaTolerSpec
import Derived.Test.YtndhjfpjhpnbaaaAdmitRef
namespace Go.Proofs.Ytndhjfpjhpnbaaa.Lex
set_option maxRecDepth 100000
open Go.ChangeShapes Go.WideShapes Go.RowKit

/- where the counting stops -/
theorem tol_stop {s : SetV} {k n : Nat} (hk : k < s.ts.length) (hD : 0 ≤ (s.ts.getD k task0).D) (hn : (n : Int) ≤ (s.ts.getD k task0).D + 1) (hall : ∀ m : Nat, m < n → withH s k m = 1) (hs : (n : Int) ≤ (s.ts.getD k task0).D → withH s k n ≠ 1) :
    (if (n : Int) - 1 < 0 then 0 else (n : Int) - 1) = tolV s k ∧ decide (0 < (n : Int)) = tolO s k := by
  have e : tolB s k = n := tol_is (by omega) hall (fun h => hs (by omega))
  have eo : tolO s k = decide (0 < (n : Int)) := by
    rw [tolO_at hk, e]
    by_cases c : 0 < n
    · rw [decide_eq_true c, decide_eq_true (by omega)]
    · rw [decide_eq_false c, decide_eq_false (by omega)]
  refine ⟨?_, eo.symm⟩
  rw [tolV, eo, Int.toNat_natCast, e]
  by_cases c : 0 < (n : Int)
  · rw [decide_eq_true c, if_pos rfl]
    split <;> omega
  · rw [decide_eq_false c]
    rw [if_pos (by omega)]; rfl
theorem ret_ib {a c : Int} {b d : Bool} (h : a = c) (g : b = d) : Ending.returned (.tuple #[.int .i64 a, .bool b]) = .returned (.tuple #[.int .i64 c, .bool d]) := by rw [h, g]
set_option maxHeartbeats 3200000 in
theorem rtol_any (s : SetV) (k : Nat) (w : World) (hs : SetIn w s) (ha : allB s = true) (hk : k < s.ts.length) : Calls Try.prog 13 #[s.val, .int .i64 k] w fun e w' => e = .returned (.tuple #[.int .i64 (tolV s k), .bool (tolO s k)]) ∧ Below w.heap.size w w' := by
  have hu : ∀ t ∈ s.ts, U64 t.ecb ∧ U64 t.ucb := fun t ht => ⟨(hs.each t ht).ecb, (hs.each t ht).ucb⟩
  obtain ⟨-, h8, -, hfit⟩ := all_fits ha hu
  obtain ⟨-, -, -, -, ⟨hD, hDT, hT⟩, -⟩ := fits_parts (hfit k hk).is
  have CW := hide (fun (b : Int) w h => rwith_any s k b w h ha (by unfold I64; omega))
  have HST := hide (fun (n : Nat) h1 h2 h3 => tol_stop (s := s) (k := k) (n := n) hk (by omega) h1 h2 h3)
  have HIN := hide hs
  have HBX := hide (sbox_new w s 24)
  obtain ⟨b, off, hao, ht⟩ := set_task hs (fun e => by rw [e] at hk; simp at hk)
  have hrow := (ht k hk).1
  have HROW := hide hrow
  clear hs ha hu hfit ht hrow
  generalize tolV s k = tv at *
  generalize tolO s k = to at *
  obtain ⟨rl, ao, cap, ts⟩ := s
  simp only at hao hk h8 hD hDT hT HROW HST
  subst hao
  have hk0 : (0 : Int) ≤ (k : Int) := by omega
  have hk1 : (k : Int) < (ts.length : Int) := by omega
  generalize ts.getD k task0 = t at *
  go_enter Try.func13, Try.ntmps13
  rw [SetV.val]
  simp only
  go_wp2
  go_loopw [6] (fun v wr => ∃ n : Nat, (n : Int) ≤ t.D + 1 ∧ v = .int .i64 n ∧ (∀ m : Nat, m < n → withH ⟨rl, some ⟨b, off, none⟩, cap, ts⟩ k m = 1) ∧ Below (w.alloc (.cells #[.int .i64 rl, .slice (some ⟨b, off, none⟩) ts.length cap] 24)).heap.size (w.alloc (.cells #[.int .i64 rl, .slice (some ⟨b, off, none⟩) ts.length cap] 24)) wr) (fun v _ => t.D.toNat + 1 - (intOf v).toNat)
  case atStart => exact ⟨0, by omega, rfl, fun m h => absurd h (by omega), Below.refl _ _⟩
  case round =>
    obtain ⟨n, hn, rfl, hall, hbel⟩ := hrel
    have SB := hide ((unhide HBX).bel hbel)
    have BK := hide (bel_box (Below.refl _ _) hbel)
    have VK := hide hbel
    have HALL := hide hall
    obtain ⟨c0, c1⟩ := unhide SB
    simp only at c0 c1
    obtain ⟨t0, t1, t2, t3, t4, t5, t6, t7, t8⟩ := (unhide HROW).bel (unhide BK)
    clear hbel hall t0 t1 t3 t4 t5 t6 t7 t8
    have e1 : IntKind.i64.wrap ((n : Int) - 1) = (n : Int) - 1 := i64_is _ (by omega)
    have e2 : IntKind.i64.wrap ((n : Int) + 1) = ((n + 1 : Nat) : Int) := i64_is _ (by omega)
    by_cases hlt : (n : Int) ≤ t.D
    · go_wp2_with fail
      refine (unhide CW n _ (set_bel (unhide HIN) (unhide BK))).mono ?_
      rintro e w1 ⟨rfl, bel⟩
      have B1 := hide (below_on (unhide BK) bel)
      have V1 := hide (below_on (unhide VK) bel)
      clear bel c0 c1 t2
      have HSTn := hide (unhide HST n hn (unhide HALL))
      have HALLn : Hid (withH ⟨rl, some ⟨b, off, none⟩, cap, ts⟩ k n = 1 → ∀ m : Nat, m < n + 1 → withH ⟨rl, some ⟨b, off, none⟩, cap, ts⟩ k m = 1) := hide (fun h m hm => by
        rcases Nat.lt_or_ge m n with l | l
        · exact unhide HALL m l
        · have : m = n := by omega
          subst this; exact h)
      generalize withR ⟨rl, some ⟨b, off, none⟩, cap, ts⟩ k n = r1 at *
      generalize hgen : withH ⟨rl, some ⟨b, off, none⟩, cap, ts⟩ k n = h1 at *
      by_cases hh : h1 = 1
      · subst hh
        have HX := hide (unhide HALLn rfl)
        clear HSTn HALLn HALL hgen
        go_wp2
        go_roundw
        case rel => exact ⟨n + 1, by omega, by go_num, unhide HX, unhide V1⟩
        case measure => simp [intOf]; omega
      · have HY := hide (unhide HSTn (fun _ => hh))
        clear HSTn HALLn HALL hgen
        obtain ⟨y1, y2⟩ := unhide HY
        by_cases hn0 : (n : Int) - 1 < 0
        · rw [if_pos hn0] at y1
          have Y1 := hide y1
          have Y2 := hide y2
          clear y1 y2
          go_wp2
          go_ret2
          exact ⟨ret_ib (unhide Y1) ((by simp : _ = decide (0 < (n : Int))).trans (unhide Y2)), unhide B1⟩
        · rw [if_neg hn0] at y1
          have Y1 := hide y1
          have Y2 := hide y2
          clear y1 y2
          go_wp2
          go_ret2
          exact ⟨ret_ib (unhide Y1) ((by simp : _ = decide (0 < (n : Int))).trans (unhide Y2)), unhide B1⟩
    · obtain ⟨y1, y2⟩ := unhide HST n hn (unhide HALL) (fun h => absurd h hlt)
      have hn0 : ¬ (n : Int) - 1 < 0 := by omega
      rw [if_neg hn0] at y1
      have Y1 := hide y1
      have Y2 := hide y2
      clear y1 y2
      go_wp2
      go_ret2
      exact ⟨ret_ib (unhide Y1) ((by simp : _ = decide (0 < (n : Int))).trans (unhide Y2)), unhide BK⟩
noncomputable def tolR (s : SetV) (k : Nat) : List Int := (List.range k).map (fun j => tolV s (j : Nat))
structure TolInv (w : World) (s : SetV) (k : Nat) (v : Value) (wr : World) : Prop where
  row : wr.ownsRow (w.heap.size + 1) 2 1 v k ((tolR s k).map intV)
  all : ∀ j, j < k → tolO s (j : Nat) = true
  below : Below (w.heap.size + 1) (w.alloc (.cells #[.int .i64 s.reload, .slice s.ao s.ts.length s.cap] 24)) wr
set_option maxHeartbeats 3200000 in
theorem rtall_any (s : SetV) (w : World) (hs : SetIn w s) (ha : allB s = true) : Calls Try.prog 9 #[s.val] w fun e w' => ∃ ao cap, e = .returned (.tuple #[.slice ao (tolL s).length cap, .bool (tolA s)]) ∧ RegsIn w' ao (tolL s) ∧ Below w.heap.size w w' := by
  have hu : ∀ t ∈ s.ts, U64 t.ecb ∧ U64 t.ucb := fun t ht => ⟨(hs.each t ht).ecb, (hs.each t ht).ucb⟩
  obtain ⟨-, h8, -, hfit⟩ := all_fits ha hu
  have CO := hide (fun (k : Nat) (hk : k < s.ts.length) w h => rtol_any s k w h ha hk)
  have HRG := hide (fun (k : Nat) (hk : k < s.ts.length) (h : tolO s k = true) => (show 0 ≤ tolV s k ∧ tolV s k ≤ 10000 from by
    obtain ⟨-, -, -, -, ⟨hD, hDT, hT⟩, -⟩ := fits_parts (hfit k hk).is
    have := (tol_edge ha hu hk h).1
    omega))
  have HIN := hide hs
  have HBX := hide (sbox_new w s 24)
  have HNO : Hid (∀ k, k < s.ts.length → tolO s k = false → tolA s = false ∧ tolL s = []) := hide (fun k hk h => by
    have e : tolA s = false := by
      unfold tolA
      cases c : (List.range s.ts.length).all fun k => tolO s k with
      | false => rfl
      | true =>
        have := List.all_eq_true.1 c k (List.mem_range.2 hk)
        rw [h] at this; cases this
    exact ⟨e, by rw [tolL, e]; rfl⟩)
  have HYES : Hid ((∀ j, j < s.ts.length → tolO s (j : Nat) = true) → tolA s = true ∧ tolL s = tolR s s.ts.length) := hide (fun h => by
    have e : tolA s = true := List.all_eq_true.2 (fun j hj => h j (List.mem_range.1 hj))
    exact ⟨e, by rw [tolL, e]; rfl⟩)
  clear hs ha hu hfit
  obtain ⟨i1, hi1⟩ : ∃ i, Try.prog.info? 2 = some i := by
    have := Try.info_i64
    cases h : Try.prog.info? 2 with
    | none => rw [h] at this; cases this
    | some i => exact ⟨i, rfl⟩
  obtain ⟨iz1, is1, ib1⟩ : i1.zero = some (.int .i64 0) ∧ i1.size = 1 ∧ i1.bytes = 8 := by
    have := Try.info_i64
    rw [hi1] at this
    simpa using this
  generalize tolA s = ta at *
  generalize tolL s = tl at *
  go_enter Try.func9, Try.ntmps9
  rw [SetV.val]
  go_wp2
  go_loopw [4, 5] (fun x i wr => ∃ (k : Nat) (v : Value), k ≤ s.ts.length ∧ i = .int .i64 k ∧ v = x ∧ TolInv w s k v wr) (fun _ i _ => s.ts.length - (intOf i).toNat)
  case atStart => exact ⟨0, _, Nat.zero_le _, rfl, rfl, ⟨World.ownsRow_nil _ _ _ _, fun j h => absurd h (by omega), by have := Below.refl (w.heap.size + 1) (w.alloc (.cells #[.int .i64 s.reload, .slice s.ao s.ts.length s.cap] 24)); exact this⟩⟩
  case round =>
    obtain ⟨k, v, hk, rfl, rfl, inv⟩ := hrel
    have hB0 : Below (w.alloc (.cells #[.int .i64 s.reload, .slice s.ao s.ts.length s.cap] 24)).heap.size (w.alloc (.cells #[.int .i64 s.reload, .slice s.ao s.ts.length s.cap] 24)) wr := by
      have := inv.below
      simpa using this
    have BK := hide (bel_box (Below.refl _ _) hB0)
    have SB := hide ((unhide HBX).bel hB0)
    have VK := hide hB0
    obtain ⟨c0, c1⟩ := unhide SB
    have HVO := hide (fun q (e : v.ownBlock = some q) => (inv.row.lt q e).1)
    have INV := hide inv
    clear inv hB0
    by_cases hlt : k < s.ts.length
    · have CK := hide (unhide CO k hlt)
      have HR := hide (unhide HRG k hlt)
      have HN := hide (unhide HNO k hlt)
      have HSN : Hid (tolO s k = true → tolR s (k + 1) = tolR s k ++ [tolV s k]) := hide (fun _ => by rw [tolR, List.range_succ, List.map_append]; rfl)
      have HAL : Hid (tolO s k = true → ∀ j, j < k + 1 → tolO s (j : Nat) = true) := hide (fun h j hj => by
        rcases Nat.lt_or_ge j k with l | l
        · exact (unhide INV).all j l
        · have : j = k := by omega
          subst this; exact h)
      go_wp2_with fail
      refine (unhide CK _ (set_bel (unhide HIN) (unhide BK))).mono ?_
      rintro e w1 ⟨rfl, bel⟩
      have B1 := hide (below_on (unhide BK) bel)
      have V1 := hide (below_on (unhide VK) bel)
      have R1 := hide (own_belG (unhide INV).row bel)
      clear bel c0 c1
      generalize htv : tolV s k = tv at *
      generalize hto : tolO s k = to at *
      cases to with
      | false =>
        have HF := hide (unhide HN rfl)
        obtain ⟨f1, f2⟩ := unhide HF
        subst f1
        subst f2
        clear HF HN htv hto
        go_wp2
        go_ret2
        exact ⟨none, 0, rfl, fun h => absurd rfl h, unhide B1⟩
      | true =>
        have hrg := unhide HR rfl
        have NEWS := hide (fresh_one w1 (intV tv) 2)
        have OWN5 := hide ((own_belG (unhide R1) ((Below.refl _ _).alloc (Nat.le_refl _) (.cells #[intV tv] 2))))
        have hsz1 := (unhide V1).size
        simp at hsz1
        clear hrg
        go_wp2_with (at_builtin; refine wpList_append_own _ rfl _ _ 26 rfl (w.heap.size + 1) 2 i1 (.int .i64 0) 1 8 (by kernel_rfl) hi1 iz1 is1 ib1 rfl (by decide) _ k _ rfl (unhide OWN5) ⟨w1.heap.size, 0, none⟩ 1 1 [intV tv] rfl rfl (unhide NEWS) (by simp [intV, Value.oneCell']) (by simp [maxLen]; omega) (by omega) (by simp; omega) ?_)
        intro v2 w6 hown6 hgrow6 _
        have hvo := unhide HVO
        have NB := hide (((by simpa using (unhide V1)) : Below (w.heap.size + 1) (w.alloc (.cells #[.int .i64 s.reload, .slice s.ao s.ts.length s.cap] 24)) w1).alloc (by omega) (.cells #[intV tv] 2) |>.grown hgrow6 (by simp; omega) (fun q e => by have := hvo q e; omega))
        have OWN6 := hide hown6
        clear hown6 hgrow6 OWN5 NEWS hvo htv hto
        go_wp2
        go_roundw
        case rel => exact ⟨k + 1, _, by omega, by go_num, rfl, ⟨by rw [unhide HSN (by trivial), List.map_append]; exact unhide OWN6, unhide HAL (by trivial), unhide NB⟩⟩
        case measure => simp [intOf]; omega
    · have e : k = s.ts.length := by omega
      subst e
      obtain ⟨y1, y2⟩ := unhide HYES (unhide INV).all
      obtain ⟨ao, cp, hv, hreg, hnil⟩ := verd_own (unhide INV).row
      subst y1
      subst y2
      subst hv
      have HREG := hide hreg
      clear hreg hnil
      go_wp2
      go_ret2
      exact ⟨ao, ⟨cp, rfl⟩, unhide HREG, unhide BK⟩
end Go.Proofs.Ytndhjfpjhpnbaaa.Lex
