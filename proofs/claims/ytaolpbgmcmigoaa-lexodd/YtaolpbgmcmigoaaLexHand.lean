/- The laws of chapter 4 on texts by hand, over what Tokens and Words of package lex answer. -/
import Derived.Test.YtaolpbgmcmigoaaLexLaws
import Derived.Deep.RegionHeld3
namespace Go.Proofs.Ytaolpbgmcmigoaa.Lex
open Go.ChangeShapes Go.WideShapes Go.RowKit

def odds : List (List UInt8) := [[97, 32, 63], [65], [120, 32, 48, 55], [9], [97, 45, 98], [116, 97, 115, 107, 13], [49, 46, 53], [59, 59, 95], [114, 101, 108, 111, 97, 100, 32, 48, 58], [120, 0]]
def oddAt : List Int := [2, 0, 2, 0, 1, 4, 1, 2, 8, 1]
theorem odd_all : ∀ k : Fin 10, tokens (odds.getD k []) = ⟨[], oddAt.getD k 0, 2⟩ := fun
  | 0 => rfl | 1 => rfl | 2 => rfl | 3 => rfl | 4 => rfl | 5 => rfl | 6 => rfl | 7 => rfl | 8 => rfl | 9 => rfl
theorem lit_odds (k : Nat) (hk : k < 10) : ∀ h, ([Value.string ⟨#[97, 32, 63]⟩, Value.string ⟨#[65]⟩, Value.string ⟨#[120, 32, 48, 55]⟩, Value.string ⟨#[9]⟩, Value.string ⟨#[97, 45, 98]⟩, Value.string ⟨#[116, 97, 115, 107, 13]⟩, Value.string ⟨#[49, 46, 53]⟩, Value.string ⟨#[59, 59, 95]⟩, Value.string ⟨#[114, 101, 108, 111, 97, 100, 32, 48, 58]⟩, Value.string ⟨#[120, 0]⟩] : List Value)[k]'h = .string (mkS (odds.getD k [])) := fun _ => match k, hk with | 0, _ => rfl | 1, _ => rfl | 2, _ => rfl | 3, _ => rfl | 4, _ => rfl | 5, _ => rfl | 6, _ => rfl | 7, _ => rfl | 8, _ => rfl | 9, _ => rfl
theorem arr_oddAt (k : Nat) (hk : k < 10) : (#[Value.int .i64 2, Value.int .i64 0, Value.int .i64 2, Value.int .i64 0, Value.int .i64 1, Value.int .i64 4, Value.int .i64 1, Value.int .i64 2, Value.int .i64 8, Value.int .i64 1] : Array Value)[k]? = some (.int .i64 (oddAt.getD k 0)) := match k, hk with | 0, _ => rfl | 1, _ => rfl | 2, _ => rfl | 3, _ => rfl | 4, _ => rfl | 5, _ => rfl | 6, _ => rfl | 7, _ => rfl | 8, _ => rfl | 9, _ => rfl
theorem alloc_cell (w : World) (cs : Array Value) (t : TypeId) {n : Nat} (hn : w.heap.size = n) (k : Nat) : (w.alloc (.cells cs t)).cell? ⟨n, k, none⟩ = cs[k]? := by
  subst hn; simp
theorem lit_words (k : Nat) (hk : k < 10) : ∀ h, ([Value.string ⟨#[114, 101, 108, 111, 97, 100]⟩, Value.string ⟨#[116, 97, 115, 107]⟩, Value.string ⟨#[112, 101, 114, 105, 111, 100]⟩, Value.string ⟨#[100, 101, 97, 100, 108, 105, 110, 101]⟩, Value.string ⟨#[102, 105, 120, 101, 100]⟩, Value.string ⟨#[102, 108, 111, 97, 116]⟩, Value.string ⟨#[116, 104, 114, 101, 115, 104]⟩, Value.string ⟨#[114, 101, 103, 105, 111, 110, 115]⟩, Value.string ⟨#[101, 99, 98]⟩, Value.string ⟨#[117, 99, 98]⟩] : List Value)[k]'h = .string (mkS (words.getD k [])) := fun _ => match k, hk with | 0, _ => rfl | 1, _ => rfl | 2, _ => rfl | 3, _ => rfl | 4, _ => rfl | 5, _ => rfl | 6, _ => rfl | 7, _ => rfl | 8, _ => rfl | 9, _ => rfl

set_option maxHeartbeats 800000 in
theorem odd_law (hT : LexT) (hW : LexW) (way : Int) (w : World) : Calls Try.prog 6 #[.int .i64 way] w fun e w' => e = .returned (.bool true) ∧ Below w.heap.size w w' := by
  have KN := hide (fun w => known_any hT hW w)
  have HT : Hid LexT := hT
  clear hT hW
  by_cases h0 : 0 ≤ way ∧ way < 10
  · obtain ⟨h0, h1⟩ := h0
    obtain ⟨k, rfl⟩ := Int.eq_ofNat_of_zero_le h0
    have hk : k < 10 := by omega
    have ho : tokens (odds.getD k []) = ⟨[], oddAt.getD k 0, 2⟩ := odd_all ⟨k, hk⟩
    have ct := fun w => unhide HT (mkS (odds.getD k [])) w
    rw [bl_mkS, ho] at ct
    have l1 := lit_odds k hk
    have l2 := arr_oddAt k hk
    have CT := hide ct
    clear ct ho HT
    generalize odds.getD k [] = d at *
    generalize oddAt.getD k 0 = a at *
    go_enter Try.func6, Try.ntmps6
    go_wp2_with fail
    refine (unhide CT _).mono ?_
    rintro e w1 ⟨v, rfl, hown, bel1⟩
    obtain ⟨ao, cap, rfl, _⟩ := trow_of_own hown
    have hc1 := cell_bel ((alloc_cell _ _ _ (n := w.heap.size + 1) (by simp) k).trans l2) bel1
    have B1 := hide (bel2 (((Below.refl _ w).alloc (Nat.le_refl _) _).alloc (by simp) _) bel1)
    rw [List.length_nil]
    clear hown bel1 l1 l2 CT
    go_wp2_with fail
    refine (unhide KN _).mono ?_
    rintro e w2 ⟨rfl, bel3⟩
    have B2 := hide (bel2 (unhide B1) bel3)
    clear bel3
    go_wp2
    go_ret
    exact ⟨rfl, unhide B2⟩
  · by_cases hn : way < 0
    · go_enter Try.func6, Try.ntmps6
      go_wp2
      go_ret
      exact ⟨rfl, by (repeat' (first | exact Below.refl _ _ | refine Below.alloc ?_ (by simp) _))⟩
    · have hn' : 10 ≤ way := by omega
      clear h0
      go_enter Try.func6, Try.ntmps6
      go_wp2
      go_ret
      exact ⟨rfl, by (repeat' (first | exact Below.refl _ _ | refine Below.alloc ?_ (by simp) _))⟩

/- the words -/
theorem word_all : ∀ k : Fin 10, tokens (words.getD k []) = ⟨[⟨3, words.getD k [], 0, 0⟩, ⟨4, [], 0, (words.getD k []).length⟩], (words.getD k []).length, 0⟩ := fun
  | 0 => rfl | 1 => rfl | 2 => rfl | 3 => rfl | 4 => rfl | 5 => rfl | 6 => rfl | 7 => rfl | 8 => rfl | 9 => rfl
theorem wordx_all : ∀ k : Fin 10, tokens (words.getD k [] ++ [120]) = ⟨[⟨1, words.getD k [] ++ [120], 0, 0⟩, ⟨4, [], 0, (words.getD k [] ++ [120]).length⟩], (words.getD k [] ++ [120]).length, 0⟩ := fun
  | 0 => rfl | 1 => rfl | 2 => rfl | 3 => rfl | 4 => rfl | 5 => rfl | 6 => rfl | 7 => rfl | 8 => rfl | 9 => rfl
theorem arr_words (k : Nat) (hk : k < 10) : (#[Value.string ⟨#[114, 101, 108, 111, 97, 100]⟩, Value.string ⟨#[116, 97, 115, 107]⟩, Value.string ⟨#[112, 101, 114, 105, 111, 100]⟩, Value.string ⟨#[100, 101, 97, 100, 108, 105, 110, 101]⟩, Value.string ⟨#[102, 105, 120, 101, 100]⟩, Value.string ⟨#[102, 108, 111, 97, 116]⟩, Value.string ⟨#[116, 104, 114, 101, 115, 104]⟩, Value.string ⟨#[114, 101, 103, 105, 111, 110, 115]⟩, Value.string ⟨#[101, 99, 98]⟩, Value.string ⟨#[117, 99, 98]⟩] : Array Value)[k]? = some (.string (mkS (words.getD k []))) := match k, hk with | 0, _ => rfl | 1, _ => rfl | 2, _ => rfl | 3, _ => rfl | 4, _ => rfl | 5, _ => rfl | 6, _ => rfl | 7, _ => rfl | 8, _ => rfl | 9, _ => rfl
theorem word_len (k : Nat) (hk : k < 10) : (words.getD k []).length ≤ 8 := match k, hk with | 0, _ => by decide | 1, _ => by decide | 2, _ => by decide | 3, _ => by decide | 4, _ => by decide | 5, _ => by decide | 6, _ => by decide | 7, _ => by decide | 8, _ => by decide | 9, _ => by decide
theorem mkS_app (a b : List UInt8) : mkS a ++ ⟨b.toArray⟩ = mkS (a ++ b) := ByteArray.mk_append_mk a b
theorem mkS_size (a : List UInt8) : (mkS a).size = a.length := by rw [← bl_len, bl_mkS]

set_option maxHeartbeats 1600000 in
theorem word_law (hT : LexT) (hW : LexW) (way : Int) (w : World) : Calls Try.prog 7 #[.int .i64 way] w fun e w' => e = .returned (.bool true) ∧ Below w.heap.size w w' := by
  have KN := hide (fun w => known_any hT hW w)
  have HT : Hid LexT := hT
  have HW : Hid LexW := hW
  clear hT hW
  by_cases h0 : 0 ≤ way ∧ way < 10
  · obtain ⟨h0, h1⟩ := h0
    obtain ⟨k, rfl⟩ := Int.eq_ofNat_of_zero_le h0
    have hk : k < 10 := by omega
    have ct := fun w => unhide HT (mkS (words.getD k [])) w
    have cx := fun w => unhide HT (mkS (words.getD k [] ++ [120])) w
    rw [bl_mkS, show tokens (words.getD k []) = _ from word_all ⟨k, hk⟩] at ct
    rw [bl_mkS, show tokens (words.getD k [] ++ [120]) = _ from wordx_all ⟨k, hk⟩] at cx
    have l1 := lit_words k hk
    have l2 := arr_words k hk
    have hlen := word_len k hk
    have happ := mkS_app (words.getD k []) [120]
    have hsz := mkS_size (words.getD k [])
    have htl := toList_mkS (words.getD k [])
    have cw : ∀ w : World, Calls Try.prog 13 #[] w fun e w' => ∃ b off cap, e = .returned (.slice (some ⟨b, off, none⟩) 10 cap) ∧ w'.cell? ⟨b, off + k, none⟩ = some (.string (mkS (words.getD k []))) ∧ Below w.heap.size w w' :=
      fun w => (unhide HW w).mono fun e w' ⟨b, off, cap, h1, h2, h3⟩ => ⟨b, off, cap, h1, h2 k hk, h3⟩
    have CT := hide ct
    have CX := hide cx
    have CW := hide cw
    clear ct cx cw HT HW
    generalize words.getD k [] = d at *
    go_enter Try.func7, Try.ntmps7
    go_wp2_with fail
    refine (unhide CT _).mono ?_
    rintro e w1 ⟨v, rfl, hown, bel1⟩
    have hc1 := cell_bel ((alloc_cell _ _ _ (n := w.heap.size) rfl k).trans l2) bel1
    have B1 := hide (bel2 ((Below.refl _ w).alloc (Nat.le_refl _) _) bel1)
    obtain ⟨ao, cap, rfl, hc⟩ := trow_of_own hown
    obtain ⟨b, off, rfl, hcc⟩ := hc (by simp)
    obtain ⟨a0, a1, _, _⟩ := hcc 0 (by simp)
    clear hown bel1 l1 l2 hc hcc
    simp only [List.getD_cons_zero, Nat.zero_mul, Nat.add_zero] at a0 a1
    go_wp2_with fail
    refine (unhide CX _).mono ?_
    rintro e w2 ⟨v, rfl, hown, bel3⟩
    have hc2 := cell_bel hc1 bel3
    have a0' := cell_bel a0 bel3
    have a1' := cell_bel a1 bel3
    have B2 := hide (bel2 (unhide B1) bel3)
    obtain ⟨ao2, cap2, rfl, hc⟩ := trow_of_own hown
    obtain ⟨b2, off2, rfl, hcc⟩ := hc (by simp)
    obtain ⟨c0, _, _, _⟩ := hcc 0 (by simp)
    clear hown bel3 hc hcc hc1 a0 a1
    simp only [List.getD_cons_zero, Nat.zero_mul, Nat.add_zero] at c0
    go_wp2_with fail
    refine (unhide CW _).mono ?_
    rintro e w3 ⟨b3, off3, cap3, rfl, d0, bel3⟩
    have hc3 := cell_bel hc2 bel3
    have a0 := cell_bel a0' bel3
    have a1 := cell_bel a1' bel3
    have c0' := cell_bel c0 bel3
    have B3 := hide (bel2 (unhide B2) bel3)
    clear bel3 hc2 a0' a1' c0 happ hlen hsz
    go_wp2_with fail
    go_region_held3 (fun w' => w'.cell? ⟨b, off, none⟩ = some (.int .i64 3) ∧ w'.cell? ⟨b, off + 1, none⟩ = some (.string (mkS d)) ∧ w'.cell? ⟨b2, off2, none⟩ = some (.int .i64 1) ∧ w'.cell? ⟨b3, off3 + k, none⟩ = some (.string (mkS d)) ∧ w'.cell? ⟨w.heap.size, k, none⟩ = some (.string (mkS d))) (go_keep)
      (first | (go_at_call 12; refine (unhide KN _).mono ?_; rintro e w4 ⟨rfl, bel3⟩; have e1 := cell_bel (w := w3.drew) a0 bel3; have e2 := cell_bel (w := w3.drew) a1 bel3; have e3 := cell_bel (w := w3.drew) c0' bel3; have e4 := cell_bel (w := w3.drew) d0 bel3; have e5 := cell_bel (w := w3.drew) hc3 bel3; have B4 := hide (bel2 (unhide B3).drew bel3); clear bel3))
    go_wp2
    go_ret
    exact ⟨rfl, unhide B4⟩
  · by_cases hn : way < 0
    · go_enter Try.func7, Try.ntmps7
      go_wp2
      go_ret
      exact ⟨rfl, by (repeat' (first | exact Below.refl _ _ | refine Below.alloc ?_ (by simp) _))⟩
    · have hn' : 10 ≤ way := by omega
      clear h0
      go_enter Try.func7, Try.ntmps7
      go_wp2
      go_ret
      exact ⟨rfl, by (repeat' (first | exact Below.refl _ _ | refine Below.alloc ?_ (by simp) _))⟩
end Go.Proofs.Ytaolpbgmcmigoaa.Lex
