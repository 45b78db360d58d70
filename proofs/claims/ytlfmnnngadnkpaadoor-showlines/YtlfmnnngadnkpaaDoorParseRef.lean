/- What the references of chapter 7 answer: a set's text. -/
import Derived.Test.YtlfmnnngadnkpaaDoorParsePure3
import Derived.Test.YtlfmnnngadnkpaaDoorTaskKnown
import Derived.Test.YtlfmnnngadnkpaaDoorBitsList
import Derived.Laws.IdiomStrings
namespace Go.Proofs.YtlfmnnngadnkpaaDoor.Lex
open Go.ChangeShapes Go.WideShapes Go.RowKit

theorem mkS_two (a b : List UInt8) : mkS a ++ mkS b = mkS (a ++ b) := ByteArray.mk_append_mk a b
theorem mkS_long (a : List UInt8) : (mkS a).size = a.length := by rw [← bl_len, bl_mkS]
theorem ret_text {a b : ByteArray} (h : a = b) : Ending.returned (.string a) = .returned (.string b) := by rw [h]
theorem dig_cell (m : Nat) : ((UInt8.ofNat (48 + m % 10)).toNat : Int) = 48 + (m : Int) % 10 := by rw [dig_nat (Nat.mod_lt _ (by omega))]; omega
theorem dig_string (m : Nat) (w : World) : (convert 45 9 (.slice (some ⟨w.heap.size, 0, none⟩) 1 1)).run Tryd.prog (w.alloc (.cells #[.int .u8 (48 + (m : Int) % 10)] 5)) = .ok (.string ⟨#[UInt8.ofNat (48 + m % 10)]⟩) (w.alloc (.cells #[.int .u8 (48 + (m : Int) % 10)] 5)) :=
  run_convert_bytes_back _ 45 9 5 ⟨w.heap.size, 0, none⟩ 1 [UInt8.ofNat (48 + m % 10)] Tryd.underlying45 Tryd.underlying5 Tryd.underlying9 (fun j hj => by
    have : j = 0 := by simp at hj; omega
    subst this
    rw [← dig_cell]; simp [Addr.add])
set_option maxHeartbeats 1600000 in
set_option maxRecDepth 100000 in
theorem rdigits_any : ∀ (m : Nat), m ≤ 9223372036854775807 → ∀ w : World, Calls Tryd.prog 15 #[.int .i64 m] w fun e w' => e = .returned (.string (mkS (digs m))) ∧ Below w.heap.size w w' := by
  intro m
  induction m using Nat.strongRecOn with
  | _ m ih =>
    intro hm w
    have hcv := dig_string m w
    by_cases h : m < 10
    · have HD : Hid (digs m = [UInt8.ofNat (48 + m % 10)]) := by show digs m = _; rw [digs_lt h, Nat.mod_eq_of_lt h]
      clear ih
      generalize UInt8.ofNat (48 + m % 10) = c at *
      go_enter Tryd.func15, Tryd.ntmps15
      go_wp2
      go_ret
      exact ⟨by rw [unhide HD]; rfl, (Below.refl _ _).alloc (Nat.le_refl _) _⟩
    · have IH := hide (ih (m / 10) (by omega) (by omega))
      have HD : Hid (digs m = digs (m / 10) ++ [UInt8.ofNat (48 + m % 10)]) := digs_ge (by omega)
      have hsz := mkS_long (digs (m / 10))
      have hl := digs_len (m / 10) 18 (by have : (10 : Nat) ^ 19 = 10000000000000000000 := by decide
                                          omega)
      have HE : Hid (mkS (digs (m / 10)) ++ ⟨#[UInt8.ofNat (48 + m % 10)]⟩ = mkS (digs m)) := by show _ = _; rw [unhide HD]; exact mkS_two _ [_]
      rw [show ((m / 10 : Nat) : Int) = (m : Int) / 10 by omega] at IH
      clear ih HD
      generalize UInt8.ofNat (48 + m % 10) = c at *
      generalize mkS (digs (m / 10)) = D at *
      generalize (digs (m / 10)).length = q at *
      generalize mkS (digs m) = E at *
      go_enter Tryd.func15, Tryd.ntmps15
      go_wp2_with fail
      refine (unhide IH _).mono ?_
      rintro e w1 ⟨rfl, bel⟩
      have B := hide (bel_box (Below.refl _ _) bel)
      clear bel hcv
      go_wp2
      go_ret
      exact ⟨ret_text (unhide HE), unhide B⟩
theorem digs_short {n : Nat} (h : n < 100000) : (digs n).length ≤ 5 := digs_len n 4 (by simpa using h)
theorem rowT_take (l : List Nat) (k : Nat) (h : k < l.length) : rowT (l.take (k + 1)) = rowT (l.take k) ++ 32 :: digs (l.getD k 0) := by
  rw [List.take_add_one, List.getElem?_eq_getElem h, rowT, rowT, List.flatMap_append]
  simp [List.getD, h]
theorem rowT_len (l : List Nat) (h : ∀ n ∈ l, n < 100000) : (rowT l).length ≤ 6 * l.length := by
  induction l with
  | nil => simp [rowT]
  | cons n r ih =>
    have h1 := ih (fun m hm => h m (List.mem_cons_of_mem _ hm))
    have h2 := digs_short (h n (List.mem_cons_self ..))
    simp only [rowT, List.flatMap_cons, List.length_append, List.length_cons] at h1 ⊢
    omega
theorem il_getD (n k : Nat) : (Bits.il n).getD k 0 = ((Bits.bl n).getD k 0 : Nat) := by
  simp only [Bits.il, Bits.ilTo, Bits.bl, List.getD_eq_getElem?_getD, List.getElem?_map]
  cases (Bits.blTo n 64)[k]? <;> rfl
theorem il_bl_len (n : Nat) : (Bits.il n).length = (Bits.bl n).length := by simp [Bits.il, Bits.ilTo, Bits.bl]
theorem bl_getD_lt (n k : Nat) : (Bits.bl n).getD k 0 < 64 := by
  by_cases h : k < (Bits.bl n).length
  · exact ((Bits.mem_bl n _).1 (by rw [List.getD_eq_getElem?_getD, List.getElem?_eq_getElem h]; exact List.getElem_mem _)).1
  · simp [List.getD, List.getElem?_eq_none (Nat.le_of_not_lt h)]
theorem setsT_len (wd : List UInt8) (x : Nat) (hw : wd.length ≤ 8) : (setsT wd x).length ≤ 400 := by
  rw [setsT]
  split
  · simp
  · have h1 := rowT_len (Bits.bl x) (fun n hn => by have := ((Bits.mem_bl x n).1 hn).1; omega)
    have h2 := Bits.blTo_len x 64
    have h3 : (Bits.bl x).length = (Bits.blTo x 64).length := rfl
    simp only [List.length_append, List.length_cons]
    omega
set_option maxHeartbeats 3200000 in
theorem rsets_any (wd : List UInt8) (x : Int) (w : World) (hw : wd.length ≤ 8) (x0 : 0 ≤ x) (hx : x < 18446744073709551616) : Calls Tryd.prog 22 #[.string (mkS wd), .int .u64 x] w fun e w' => e = .returned (.string (mkS (setsT wd x.toNat))) ∧ Below w.heap.size w w' := by
  have CL := hide (fun w => Bits.rlist_any x w x0 hx)
  have hszw := mkS_long wd
  have hlen := il_bl_len x.toNat
  have h64 : (Bits.bl x.toNat).length ≤ 64 := Bits.blTo_len x.toNat 64
  by_cases h0 : (Bits.bl x.toNat).length = 0
  · have HF : Hid (setsT wd x.toNat = []) := by show setsT wd x.toNat = []; rw [setsT, if_pos h0]
    go_enter Tryd.func22, Tryd.ntmps22
    go_wp2_with fail
    refine (unhide CL _).mono ?_
    rintro e w1 ⟨v, rfl, own, bel⟩
    obtain ⟨ao, cap, rfl, -⟩ := Bits.row_of_own rfl own
    have B := hide bel
    clear bel own
    rw [hlen, h0]
    go_wp2
    go_ret
    exact ⟨by rw [unhide HF]; rfl, unhide B⟩
  · have HF : Hid (setsT wd x.toNat = 32 :: wd ++ rowT (Bits.bl x.toNat)) := by show setsT wd x.toNat = _; rw [setsT, if_neg h0]
    have hbl := fun k => bl_getD_lt x.toNat k
    have hget := il_getD x.toNat
    have hmem : ∀ n ∈ Bits.bl x.toNat, n < 100000 := fun n hn => by have := ((Bits.mem_bl x.toNat n).1 hn).1; omega
    go_enter Tryd.func22, Tryd.ntmps22
    go_wp2_with fail
    refine (unhide CL _).mono ?_
    rintro e w1 ⟨v, rfl, own, bel⟩
    obtain ⟨ao, cap, rfl, hrow⟩ := Bits.row_of_own rfl own
    obtain ⟨b, off, rfl, hc⟩ := hrow (fun e => by rw [e] at hlen; simp at hlen; omega)
    have B := hide bel
    have HG : Hid (∀ j, j < (Bits.bl x.toNat).length → w1.cell? ⟨b, off + j, none⟩ = some (.int .i64 ((Bits.bl x.toNat).getD j 0 : Nat))) := fun j hj => by rw [← hget]; exact hc j (by omega)
    rw [hlen]
    have HJ : Hid ((⟨#[32]⟩ : ByteArray) ++ mkS wd = mkS (32 :: wd ++ rowT ((Bits.bl x.toNat).take 0))) := by show mkS [32] ++ mkS wd = _; rw [mkS_two]; simp [rowT]
    have HB := hide hbl
    have HM := hide hmem
    clear bel own hc hrow hget hlen hbl hmem CL
    generalize Bits.bl x.toNat = l at *
    generalize hn : l.length = n at *
    have h0' : ((n : Int) == 0) = false := by simp; omega
    go_wp2
    go_loopw [6, 7] (fun s i wr => ∃ k : Nat, k ≤ n ∧ i = .int .i64 k ∧ s = .string (mkS (32 :: wd ++ rowT (l.take k))) ∧ Below w1.heap.size w1 wr) (fun _ i _ => n - (intOf i).toNat)
    case atStart => exact ⟨0, Nat.zero_le _, rfl, by rw [unhide HJ], Below.refl _ _⟩
    case round =>
      obtain ⟨k, hk, rfl, rfl, hbel⟩ := hrel
      by_cases hlt : k < n
      · have c := cell_bel' (unhide HG k (by omega)) hbel
        have BW := hide hbel
        have CD := hide (rdigits_any (l.getD k 0) (by have := unhide HB k; omega))
        have HE : Hid (mkS (32 :: wd ++ rowT (l.take k)) ++ ⟨#[32]⟩ ++ mkS (digs (l.getD k 0)) = mkS (32 :: wd ++ rowT (l.take (k + 1)))) := by
          show mkS _ ++ mkS [32] ++ mkS _ = _
          rw [rowT_take l k (by omega), mkS_two, mkS_two]; simp
        have hs1 : (mkS (32 :: wd ++ rowT (l.take k))).size ≤ 500 := by
          rw [mkS_long]
          have h1 := rowT_len (l.take k) (fun n hn => unhide HM n (List.mem_of_mem_take hn))
          have h2 : (l.take k).length ≤ 64 := by rw [List.length_take]; omega
          simp only [List.length_append, List.length_cons]; omega
        have hs2 : (mkS (digs (l.getD k 0))).size ≤ 5 := by rw [mkS_long]; exact digs_short (by have := unhide HB k; omega)
        clear hbel
        generalize mkS (32 :: wd ++ rowT (l.take k)) = S at *
        generalize mkS (digs (l.getD k 0)) = D at *
        generalize l.getD k 0 = q at *
        go_wp2_with fail
        refine (unhide CD _).mono ?_
        rintro e w2 ⟨rfl, bel⟩
        have B2 := hide (below_on (unhide BW) bel)
        clear bel
        go_wp2
        go_roundw
        case rel => exact ⟨k + 1, by omega, by go_num, by rw [unhide HE], unhide B2⟩
        case measure => simp [intOf]; omega
      · have e : l.take k = l := List.take_of_length_le (by omega)
        have BW := hide (below_on (unhide B) hbel)
        rw [e]
        have HF' : Hid (mkS (32 :: wd ++ rowT l) = mkS (setsT wd x.toNat)) := by show _ = _; rw [unhide HF]
        clear hbel e
        generalize mkS (32 :: wd ++ rowT l) = S at *
        go_wp2
        go_ret
        exact ⟨ret_text (unhide HF'), unhide BW⟩
end Go.Proofs.YtlfmnnngadnkpaaDoor.Lex
