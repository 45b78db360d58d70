/- What the references of chapter 4 answer, the words, names, tokens: for all texts. -/
import Derived.Test.YtndhjfpjhpnbaaaLexRef
namespace Go.Proofs.Ytndhjfpjhpnbaaa.Lex
set_option maxRecDepth 100000
open Go.ChangeShapes Go.WideShapes Go.RowKit

/- the words -/
def wordCells : Array Value := (words.map fun d => Value.string (mkS d)).toArray
theorem rwords_any (w : World) : Calls Try.prog 65 #[] w fun e w' => e = .returned (.slice (some ⟨w.heap.size, 0, none⟩) 10 10) ∧ w' = w.alloc (.cells wordCells 9) := by
  go_enter Try.func65, Try.ntmps65
  go_wp2
  go_ret
  exact ⟨rfl, rfl⟩
theorem wordCells_at (w : World) (k : Nat) (h : k < 10) : (w.alloc (.cells wordCells 9)).cell? ⟨w.heap.size, k, none⟩ = some (.string (mkS (words.getD k []))) := by
  have : wordCells[k]? = some (.string (mkS (words.getD k []))) := by
    have hl : words.length = 10 := rfl
    simp [wordCells, hl, h]
  simp [this]
theorem same_text (d : List UInt8) (s : ByteArray) : ((mkS d).toList == s.toList) = (d == bl s) := by rw [toList_bl, toList_bl, bl_mkS]
theorem words_take (k : Nat) (h : k < 10) : words.take (k + 1) = words.take k ++ [words.getD k []] := by
  have hl : words.length = 10 := rfl
  rw [List.take_add_one, List.getElem?_eq_getElem (by omega), List.getD_eq_getElem?_getD, List.getElem?_eq_getElem (by omega)]; rfl
set_option maxHeartbeats 400000 in
theorem rword_any (s : ByteArray) (w : World) : Calls Try.prog 51 #[.string s] w fun e w' => e = .returned (.bool (wordB (bl s))) ∧ w' = w.alloc (.cells wordCells 9) := by
  go_enter Try.func51, Try.ntmps51
  go_wp2_with (go_at_call 65; refine (rwords_any _).mono ?_; rintro e w' ⟨rfl, hw⟩; rw [hw]; clear hw w')
  generalize hW : w.alloc (.cells wordCells 9) = W at *
  have hcell : ∀ k, k < 10 → W.cell? ⟨w.heap.size, k, none⟩ = some (.string (mkS (words.getD k []))) := fun k hk => by rw [← hW]; exact wordCells_at w k hk
  have HW := hide hW
  have HC := hide hcell
  clear hW hcell
  go_loop [4] (fun i => ∃ k : Nat, k ≤ 10 ∧ i = .int .i64 k ∧ (words.take k).contains (bl s) = false) (fun i => 10 - (intOf i).toNat)
  case atStart => exact ⟨0, by omega, rfl, rfl⟩
  case round =>
    obtain ⟨k, hk, rfl, hno⟩ := hrel
    by_cases hlt : k < 10
    · have hc := unhide HC k hlt
      have hs := same_text (words.getD k []) s
      have ht := words_take k hlt
      cases hq : (words.getD k [] == bl s)
      · rw [hq] at hs
        have hno' : (words.take (k + 1)).contains (bl s) = false := by
          rw [ht]
          simp only [List.contains_eq_mem, List.mem_append, List.mem_singleton, decide_eq_false_iff_not, not_or] at hno ⊢
          exact ⟨hno, fun e => by rw [e] at hq; simp at hq⟩
        have HNO := hide hno'
        clear ht hno hno'
        generalize words.getD k [] = d at *
        go_wp2
        go_round
        case rel => exact ⟨k + 1, by omega, by go_num, unhide HNO⟩
        case measure => simp [intOf]; omega
      · rw [hq] at hs
        have hyes : wordB (bl s) = true := by
          have e : words.getD k [] = bl s := by simpa using hq
          have hm : words.getD k [] ∈ words := by
            have hl : words.length = 10 := rfl
            rw [List.getD_eq_getElem?_getD, List.getElem?_eq_getElem (by omega)]
            exact List.getElem_mem _
          simp only [wordB, List.contains_eq_mem, decide_eq_true_eq]
          rw [← e]; exact hm
        have HY := hide hyes
        clear ht hno hyes
        generalize words.getD k [] = d at *
        go_wp2
        go_ret
        exact ⟨ret_bool (unhide HY).symm, (unhide HW).symm⟩
    · have hz : wordB (bl s) = false := by
        have e : words.take k = words := List.take_of_length_le (by have : words.length = 10 := rfl; omega)
        rw [e] at hno; exact hno
      have HZ := hide hz
      clear hno hz
      go_wp2
      go_ret
      exact ⟨ret_bool (unhide HZ).symm, (unhide HW).symm⟩

/- a name, or a word -/
theorem name_end {s : ByteArray} {k : Nat} (hs : 0 < s.size) (hk : k ≤ s.size) (h : (s[0]'hs).toNat ≠ 59) (hd : digitC (s[0]'hs) = false) (hm : smallC (s[0]'hs) = true) (hall : ∀ j, j < k → ∀ hl : j < s.size, nameC (s[j]'hl) = true) (he : ∀ hj : k < s.size, nameC (s[k]'hj) = false) :
    oneOf (bl s) = if wordB ((bl s).take k) = true then some (⟨3, (bl s).take k, 0, 0⟩, k) else if 12 < k then none else some (⟨1, (bl s).take k, 0, 0⟩, k) := by
  have hr := byte_run hk hall he
  have hl : ((bl s).take k).length = k := by rw [List.length_take, bl_len]; omega
  obtain ⟨r, hb⟩ := bl_cons s hs
  rw [hb] at hr hl ⊢
  simp only [oneOf, if_neg h, hd, hm, if_true, hr, hl, Bool.false_eq_true, if_false]
theorem next_all {s : ByteArray} {k : Nat} {p : UInt8 → Bool} (hlt : k < s.size) (hall : ∀ j, j < k → ∀ hl : j < s.size, p (s[j]'hl) = true) (hp : p (s[k]'hlt) = true) : ∀ j, j < k + 1 → ∀ hl : j < s.size, p (s[j]'hl) = true := fun j hj hl => by
  by_cases e : j = k
  · subst e; exact hp
  · exact hall j (by omega) hl

set_option maxHeartbeats 1600000 in
theorem rone_name (s : ByteArray) (w : World) (hs : 0 < s.size) (hmax : s.size ≤ 9223372036854775807) (h : (s[0]'hs).toNat ≠ 59) (hd : digitC (s[0]'hs) = false) (hm : smallC (s[0]'hs) = true) : Calls Try.prog 42 #[.string s] w fun e w' =>
    e = .returned (.tuple #[tokV (oneT (bl s)), .int .i64 (oneN (bl s) : Nat)]) ∧ Below w.heap.size w w' := by
  have hs' : (0 : Int) < s.size := by omega
  have h1 : (((s[0]'hs).toNat : Int) == 59) = false := by simp; omega
  have h2 := digit_nat (s[0]'hs)
  rw [hd] at h2
  have h3 := small_nat (s[0]'hs)
  rw [hm] at h3
  go_enter Try.func42, Try.ntmps42
  go_wp2_with (first
    | (go_at_call 50; refine (rdigit_any _ _).mono ?_; rintro e w' ⟨rfl, hw⟩; rw [hw]; clear hw w')
    | (go_at_call 41; refine (rsmall_any _ _).mono ?_; rintro e w' ⟨rfl, hw⟩; rw [hw]; clear hw w')
    | (go_at_call 51; refine (rword_any _ _).mono ?_; rintro e w' ⟨rfl, hw⟩; rw [hw]; clear hw w'))
  go_loop [4] (fun n => ∃ k : Nat, k ≤ s.size ∧ n = .int .i64 k ∧ ∀ j, j < k → ∀ hl : j < s.size, nameC (s[j]'hl) = true) (fun n => s.size - (intOf n).toNat)
  case atStart => exact ⟨0, Nat.zero_le _, rfl, fun j hj => absurd hj (by omega)⟩
  case round =>
    obtain ⟨k, hk, rfl, hall⟩ := hrel
    by_cases hlt : k < s.size
    · have hlt' : (k : Int) < s.size := by omega
      have e2 := digit_nat (s[k]'hlt)
      have e3 := small_nat (s[k]'hlt)
      cases hsk : smallC (s[k]'hlt)
      · cases hdk : digitC (s[k]'hlt)
        · rw [hsk] at e3
          rw [hdk] at e2
          by_cases hu : (s[k]'hlt).toNat = 95
          · have hu' : (((s[k]'hlt).toNat : Int) == 95) = true := by simp; omega
            have hall' := next_all hlt hall (by simp [nameC, hu])
            have HALL := hide hall'
            clear hall hall'
            go_wp2_with (first
              | (go_at_call 50; refine (rdigit_any _ _).mono ?_; rintro e w' ⟨rfl, hw⟩; rw [hw]; clear hw w')
              | (go_at_call 41; refine (rsmall_any _ _).mono ?_; rintro e w' ⟨rfl, hw⟩; rw [hw]; clear hw w')
              | (go_at_call 51; refine (rword_any _ _).mono ?_; rintro e w' ⟨rfl, hw⟩; rw [hw]; clear hw w'))
            go_round
            case rel => exact ⟨k + 1, by omega, by go_num, unhide HALL⟩
            case measure => simp [intOf]; omega
          · have hu' : (((s[k]'hlt).toNat : Int) == 95) = false := by simp; omega
            have ho := name_end hs hk h hd hm hall (fun _ => by simp [nameC, hsk, hdk, hu])
            clear hall hu
            have hx := take_mkS s k
            have hbl := bl_mkS ((bl s).take k)
            rw [← hx] at hbl
            have hl : ((bl s).take k).length = k := by rw [List.length_take, bl_len]; omega
            cases hw : wordB ((bl s).take k)
            · rw [hw] at ho
              have hwb : wordB (bl (s.extract 0 k)) = false := by rw [hbl]; exact hw
              by_cases h12 : 12 < k
              · rw [if_neg (by simp), if_pos h12] at ho
                have h12' : (12 : Int) < k := by omega
                have HO := hide ho
                clear ho hx hw hbl
                go_wp2_with (first
                  | (go_at_call 50; refine (rdigit_any _ _).mono ?_; rintro e w' ⟨rfl, hw⟩; rw [hw]; clear hw w')
                  | (go_at_call 41; refine (rsmall_any _ _).mono ?_; rintro e w' ⟨rfl, hw⟩; rw [hw]; clear hw w')
                  | (go_at_call 51; refine (rword_any _ _).mono ?_; rintro e w' ⟨rfl, hw⟩; rw [hw]; clear hw w'))
                (try simp only [Exit.inBlock, Exit.then])
                refine bodyPost_ret (v := .tuple #[.agg #[.int .i64 0, .string ⟨#[]⟩, .int .i64 0, .int .i64 0], .int .i64 0]) ?_ rfl ⟨ret_one (m := 0) (one_none (unhide HO)).1 (one_none (unhide HO)).2, ?_⟩
                · rw [results_cell_tmp rfl]; go_simp
                · (repeat' (first | exact Below.refl _ _ | refine Below.drew ?_ | refine Below.setCell ?_ (by simp) _ | refine Below.alloc ?_ (by simp <;> omega) _))
              · rw [if_neg (by simp), if_neg h12] at ho
                have HO : Hid (oneOf (bl s) = some (⟨1, bl (s.extract 0 k), 0, 0⟩, k)) := by show oneOf (bl s) = _; rw [hbl]; exact ho
                clear ho hx hw hbl
                go_wp2_with (first
                  | (go_at_call 50; refine (rdigit_any _ _).mono ?_; rintro e w' ⟨rfl, hw⟩; rw [hw]; clear hw w')
                  | (go_at_call 41; refine (rsmall_any _ _).mono ?_; rintro e w' ⟨rfl, hw⟩; rw [hw]; clear hw w')
                  | (go_at_call 51; refine (rword_any _ _).mono ?_; rintro e w' ⟨rfl, hw⟩; rw [hw]; clear hw w'))
                (try simp only [Exit.inBlock, Exit.then])
                refine bodyPost_ret (v := .tuple #[.agg #[.int .i64 1, .string (s.extract 0 k), .int .i64 0, .int .i64 0], .int .i64 k]) ?_ rfl ⟨ret_one (m := k) (one_some (unhide HO)).1 (one_some (unhide HO)).2, ?_⟩
                · rw [results_cell_tmp rfl]; go_simp
                · (repeat' (first | exact Below.refl _ _ | refine Below.drew ?_ | refine Below.setCell ?_ (by simp) _ | refine Below.alloc ?_ (by simp <;> omega) _))
            · rw [hw, if_pos rfl] at ho
              have hwb : wordB (bl (s.extract 0 k)) = true := by rw [hbl]; exact hw
              have HO : Hid (oneOf (bl s) = some (⟨3, bl (s.extract 0 k), 0, 0⟩, k)) := by show oneOf (bl s) = _; rw [hbl]; exact ho
              clear ho hx hw hbl
              go_wp2_with (first
                | (go_at_call 50; refine (rdigit_any _ _).mono ?_; rintro e w' ⟨rfl, hw⟩; rw [hw]; clear hw w')
                | (go_at_call 41; refine (rsmall_any _ _).mono ?_; rintro e w' ⟨rfl, hw⟩; rw [hw]; clear hw w')
                | (go_at_call 51; refine (rword_any _ _).mono ?_; rintro e w' ⟨rfl, hw⟩; rw [hw]; clear hw w'))
              (try simp only [Exit.inBlock, Exit.then])
              refine bodyPost_ret (v := .tuple #[.agg #[.int .i64 3, .string (s.extract 0 k), .int .i64 0, .int .i64 0], .int .i64 k]) ?_ rfl ⟨ret_one (m := k) (one_some (unhide HO)).1 (one_some (unhide HO)).2, ?_⟩
              · rw [results_cell_tmp rfl]; go_simp
              · (repeat' (first | exact Below.refl _ _ | refine Below.drew ?_ | refine Below.setCell ?_ (by simp) _ | refine Below.alloc ?_ (by simp <;> omega) _))
        · rw [hsk] at e3
          rw [hdk] at e2
          have hall' := next_all hlt hall (by simp [nameC, hdk])
          have HALL := hide hall'
          clear hall hall'
          go_wp2_with (first
            | (go_at_call 50; refine (rdigit_any _ _).mono ?_; rintro e w' ⟨rfl, hw⟩; rw [hw]; clear hw w')
            | (go_at_call 41; refine (rsmall_any _ _).mono ?_; rintro e w' ⟨rfl, hw⟩; rw [hw]; clear hw w')
            | (go_at_call 51; refine (rword_any _ _).mono ?_; rintro e w' ⟨rfl, hw⟩; rw [hw]; clear hw w'))
          go_round
          case rel => exact ⟨k + 1, by omega, by go_num, unhide HALL⟩
          case measure => simp [intOf]; omega
      · rw [hsk] at e3
        have hall' := next_all hlt hall (by simp [nameC, hsk])
        have HALL := hide hall'
        clear hall hall'
        go_wp2_with (first
          | (go_at_call 50; refine (rdigit_any _ _).mono ?_; rintro e w' ⟨rfl, hw⟩; rw [hw]; clear hw w')
          | (go_at_call 41; refine (rsmall_any _ _).mono ?_; rintro e w' ⟨rfl, hw⟩; rw [hw]; clear hw w')
          | (go_at_call 51; refine (rword_any _ _).mono ?_; rintro e w' ⟨rfl, hw⟩; rw [hw]; clear hw w'))
        go_round
        case rel => exact ⟨k + 1, by omega, by go_num, unhide HALL⟩
        case measure => simp [intOf]; omega
    · have hlt' : ¬ (k : Int) < s.size := by omega
      have ho := name_end hs hk h hd hm hall (fun hj => absurd hj hlt)
      clear hall
      have hx := take_mkS s k
      have hbl := bl_mkS ((bl s).take k)
      rw [← hx] at hbl
      have hl : ((bl s).take k).length = k := by rw [List.length_take, bl_len]; omega
      cases hw : wordB ((bl s).take k)
      · rw [hw] at ho
        have hwb : wordB (bl (s.extract 0 k)) = false := by rw [hbl]; exact hw
        by_cases h12 : 12 < k
        · rw [if_neg (by simp), if_pos h12] at ho
          have h12' : (12 : Int) < k := by omega
          have HO := hide ho
          clear ho hx hw hbl
          go_wp2_with (first
            | (go_at_call 50; refine (rdigit_any _ _).mono ?_; rintro e w' ⟨rfl, hw⟩; rw [hw]; clear hw w')
            | (go_at_call 41; refine (rsmall_any _ _).mono ?_; rintro e w' ⟨rfl, hw⟩; rw [hw]; clear hw w')
            | (go_at_call 51; refine (rword_any _ _).mono ?_; rintro e w' ⟨rfl, hw⟩; rw [hw]; clear hw w'))
          (try simp only [Exit.inBlock, Exit.then])
          refine bodyPost_ret (v := .tuple #[.agg #[.int .i64 0, .string ⟨#[]⟩, .int .i64 0, .int .i64 0], .int .i64 0]) ?_ rfl ⟨ret_one (m := 0) (one_none (unhide HO)).1 (one_none (unhide HO)).2, ?_⟩
          · rw [results_cell_tmp rfl]; go_simp
          · (repeat' (first | exact Below.refl _ _ | refine Below.drew ?_ | refine Below.setCell ?_ (by simp) _ | refine Below.alloc ?_ (by simp <;> omega) _))
        · rw [if_neg (by simp), if_neg h12] at ho
          have HO : Hid (oneOf (bl s) = some (⟨1, bl (s.extract 0 k), 0, 0⟩, k)) := by show oneOf (bl s) = _; rw [hbl]; exact ho
          clear ho hx hw hbl
          go_wp2_with (first
            | (go_at_call 50; refine (rdigit_any _ _).mono ?_; rintro e w' ⟨rfl, hw⟩; rw [hw]; clear hw w')
            | (go_at_call 41; refine (rsmall_any _ _).mono ?_; rintro e w' ⟨rfl, hw⟩; rw [hw]; clear hw w')
            | (go_at_call 51; refine (rword_any _ _).mono ?_; rintro e w' ⟨rfl, hw⟩; rw [hw]; clear hw w'))
          (try simp only [Exit.inBlock, Exit.then])
          refine bodyPost_ret (v := .tuple #[.agg #[.int .i64 1, .string (s.extract 0 k), .int .i64 0, .int .i64 0], .int .i64 k]) ?_ rfl ⟨ret_one (m := k) (one_some (unhide HO)).1 (one_some (unhide HO)).2, ?_⟩
          · rw [results_cell_tmp rfl]; go_simp
          · (repeat' (first | exact Below.refl _ _ | refine Below.drew ?_ | refine Below.setCell ?_ (by simp) _ | refine Below.alloc ?_ (by simp <;> omega) _))
      · rw [hw, if_pos rfl] at ho
        have hwb : wordB (bl (s.extract 0 k)) = true := by rw [hbl]; exact hw
        have HO : Hid (oneOf (bl s) = some (⟨3, bl (s.extract 0 k), 0, 0⟩, k)) := by show oneOf (bl s) = _; rw [hbl]; exact ho
        clear ho hx hw hbl
        go_wp2_with (first
          | (go_at_call 50; refine (rdigit_any _ _).mono ?_; rintro e w' ⟨rfl, hw⟩; rw [hw]; clear hw w')
          | (go_at_call 41; refine (rsmall_any _ _).mono ?_; rintro e w' ⟨rfl, hw⟩; rw [hw]; clear hw w')
          | (go_at_call 51; refine (rword_any _ _).mono ?_; rintro e w' ⟨rfl, hw⟩; rw [hw]; clear hw w'))
        (try simp only [Exit.inBlock, Exit.then])
        refine bodyPost_ret (v := .tuple #[.agg #[.int .i64 3, .string (s.extract 0 k), .int .i64 0, .int .i64 0], .int .i64 k]) ?_ rfl ⟨ret_one (m := k) (one_some (unhide HO)).1 (one_some (unhide HO)).2, ?_⟩
        · rw [results_cell_tmp rfl]; go_simp
        · (repeat' (first | exact Below.refl _ _ | refine Below.drew ?_ | refine Below.setCell ?_ (by simp) _ | refine Below.alloc ?_ (by simp <;> omega) _))

theorem rone_any (s : ByteArray) (w : World) (hs : 0 < s.size) (hmax : s.size ≤ 9223372036854775807) : Calls Try.prog 42 #[.string s] w fun e w' =>
    e = .returned (.tuple #[tokV (oneT (bl s)), .int .i64 (oneN (bl s) : Nat)]) ∧ Below w.heap.size w w' := by
  by_cases h : (s[0]'hs).toNat = 59
  · exact rone_semi s w hs h
  · cases hd : digitC (s[0]'hs)
    · cases hm : smallC (s[0]'hs)
      · exact rone_odd s w hs h hd hm
      · exact rone_name s w hs hmax h hd hm
    · exact rone_num s w hs hmax h hd
end Go.Proofs.Ytndhjfpjhpnbaaa.Lex
