/- What Text of package show answers. -/
import Derived.Test.YtlfmnnngadnkpaaDoorShowCode
namespace Go.Proofs.YtlfmnnngadnkpaaDoor.Lex
open Go.ChangeShapes Go.WideShapes Go.RowKit

/- a builder of the library's that holds l -/
def Bld (w : World) (B b : Nat) (l : List UInt8) : Prop := Lib.IsBuilder 47 5 B b (Lib.byteCells l) w
theorem bld_at {w w' : World} {B b : Nat} {p : Value} {bs : List Value} (h : Lib.BuilderAt 47 5 B b p bs w) (hb : Below w.heap.size w w') : Lib.BuilderAt 47 5 B b p bs w' := by
  have hlt := h.lt
  obtain ⟨hB, v, hk, hown, hne⟩ := h
  exact ⟨hB, v, by rw [hb.block b hlt]; exact hk, own_keep hown hb, hne⟩
theorem Bld.bel {w w' : World} {B b : Nat} {l : List UInt8} (h : Bld w B b l) (hb : Below w.heap.size w w') : Bld w' B b l := by
  rcases h with h | h
  · exact .inl (bld_at h hb)
  · exact .inr (bld_at h hb)
theorem bld_new (w : World) (B : Nat) (hB : B ≤ w.heap.size) : Bld (w.alloc (.cells #[.pointer none, .slice none 0 0] 47)) B w.heap.size [] :=
  .inl ⟨hB, .slice none 0 0, (by show (w.heap.push _)[w.heap.size]? = _; exact Array.getElem?_push_size), World.ownsRow_nil _ _ _ _, by simp [Value.ownBlock]⟩
theorem wstr_any (B b : Nat) (l : List UInt8) (x : ByteArray) (w : World) (h : Bld w B b l) (hl : l.length + x.size ≤ 1000000) (hB : B ≤ w.heap.size) :
    Calls Tryd.prog 23 #[.pointer (some ⟨b, 0, none⟩), .string x] w fun e w' => e = .returned (.tuple #[.int .i64 x.size, .nilIface]) ∧ Bld w' B b (l ++ bl x) ∧ Below B w w' := by
  have C : Calls Tryd.prog 23 #[.pointer (some ⟨b, 0, none⟩), .string x] w _ := Any.Builder_WriteString { lays156 with } Builder_Extra_156 B b (Lib.byteCells l) x w h (by rw [Lib.byteCells_length]; omega) hB
  refine C.mono ?_
  rintro e w' ⟨rfl, h2, bel⟩
  refine ⟨rfl, .inr ?_, bel⟩
  have e : Lib.byteCells (l ++ bl x) = Lib.byteCells l ++ Lib.strCells x := List.map_append
  rw [e]
  exact h2
theorem bstr_any (B b : Nat) (l : List UInt8) (w : World) (h : Bld w B b l) (h0 : l ≠ []) :
    Calls Tryd.prog 24 #[.pointer (some ⟨b, 0, none⟩)] w fun e w' => e = .returned (.string (mkS l)) ∧ Below B w w' := Any.Builder_String { lays156 with } Builder_Extra_156 B b l w h h0
theorem part_some (s : SetV) (k : Nat) : partT s k ≠ [] := by rw [partT]; simp [wReload]
set_option maxHeartbeats 3200000 in
set_option maxRecDepth 100000 in
theorem code_SText : CShowText := by
  intro s w hP hs hall
  obtain ⟨⟨hr0, hr1⟩, h8, -, hfit⟩ := all_fits hall (fun t ht => ⟨(hs.each t ht).ecb, (hs.each t ht).ucb⟩)
  have hlen := part_len ⟨hr0, hr1⟩ hfit h8
  have hrn : ((s.reload.toNat : Nat) : Int) = s.reload := by omega
  have HP := hide (fun w' (hB : Below w.heap.size w w') => hP.bel hB)
  have CR := hide (fun w hP => num_any s.reload.toNat (by omega) w hP)
  rw [hrn] at CR
  have zR : (mkS (digs s.reload.toNat)).size ≤ 5 := by rw [mkS_long]; exact digs_short (by omega)
  have HJ : Hid ((⟨#[114, 101, 108, 111, 97, 100, 32]⟩ : ByteArray) ++ mkS (digs s.reload.toNat) ++ ⟨#[59, 10]⟩ = mkS (partT s 0)) := by
    show mkS (wReload ++ [32]) ++ mkS _ ++ mkS [59, 10] = _
    rw [part_zero, mkS_two, mkS_two]
  have HN := hide (fun k => part_next s k)
  have HA := hide (part_all s)
  have HL := hide hlen
  have HF := hide hfit
  have HT := hide (fun h => set_task hs h)
  clear hall hfit hs hlen hrn hP
  generalize mkS (digs s.reload.toNat) = dR at *
  have hbox := sbox_new w s 24
  obtain ⟨BB, hBB⟩ : ∃ BB, BB = (w.alloc (.cells #[.int .i64 s.reload, .slice s.ao s.ts.length s.cap] 24)).heap.size := ⟨_, rfl⟩
  have XB := hide (fun x (h : Below BB (w.alloc (.cells #[.int .i64 s.reload, .slice s.ao s.ts.length s.cap] 24)) x) => bel_box (Below.refl _ w) (hBB ▸ h))
  have X1 := hide (fun x (h : Below BB (w.alloc (.cells #[.int .i64 s.reload, .slice s.ao s.ts.length s.cap] 24)) x) => hbox.bel (hBB ▸ h))
  have SZ := hide (fun x (h : Below BB (w.alloc (.cells #[.int .i64 s.reload, .slice s.ao s.ts.length s.cap] 24)) x) => Nat.le_trans (Nat.le_of_eq hBB) h.size)
  have V0 : Hid (Below BB (w.alloc (.cells #[.int .i64 s.reload, .slice s.ao s.ts.length s.cap] 24)) (w.alloc (.cells #[.int .i64 s.reload, .slice s.ao s.ts.length s.cap] 24))) := Below.refl _ _
  have D0 : Hid (Bld ((w.alloc (.cells #[.int .i64 s.reload, .slice s.ao s.ts.length s.cap] 24)).alloc (.cells #[.pointer none, .slice none 0 0] 47)) BB (w.heap.size + 1) []) := by
    have := bld_new (w.alloc (.cells #[.int .i64 s.reload, .slice s.ao s.ts.length s.cap] 24)) BB (Nat.le_of_eq hBB)
    rw [World.size_alloc] at this
    exact this
  clear hBB hbox
  go_enter Tryd.func10, Tryd.ntmps10
  rw [SetV.val]
  go_wp2_with fail
  refine (unhide CR _ (unhide HP _ (((Below.refl _ _).alloc (Nat.le_refl _) _).alloc (by simp) _))).mono ?_
  rintro e w1 ⟨rfl, bel⟩
  have D1 := hide ((unhide D0).bel bel)
  have V1 := hide (bel_up ((unhide V0).alloc (unhide SZ _ (unhide V0)) _) (by have := unhide SZ _ (unhide V0); simp only [World.size_alloc] at this ⊢; omega) bel)
  clear bel D0 V0
  go_wp2_with fail
  refine (wstr_any BB _ [] _ w1 (unhide D1) (by rw [unhide HJ, mkS_long]; have := unhide HL 0 (Nat.zero_le _); simp; omega) (unhide SZ _ (unhide V1))).mono ?_
  rintro e w2 ⟨rfl, d2, bel⟩
  rw [unhide HJ, bl_mkS, List.nil_append] at d2
  have D2 := hide d2
  have V2 := hide ((unhide V1).trans bel)
  obtain ⟨-, c1⟩ := unhide X1 _ (unhide V2)
  clear bel d2 D1 V1
  go_wp2
  go_loopw [15] (fun i wr => ∃ k : Nat, k ≤ s.ts.length ∧ i = .int .i64 k ∧ Bld wr BB (w.heap.size + 1) (partT s k) ∧ Below BB (w.alloc (.cells #[.int .i64 s.reload, .slice s.ao s.ts.length s.cap] 24)) wr) (fun i _ => s.ts.length - (intOf i).toNat)
  case atStart => exact ⟨0, Nat.zero_le _, rfl, unhide D2, unhide V2⟩
  case round =>
    obtain ⟨k, hk, rfl, hd, hv⟩ := hrel
    clear D2 V2 c1
    have DK := hide hd
    have VK := hide hv
    have BK := hide (unhide XB _ hv)
    clear hd hv
    by_cases hlt : k < s.ts.length
    · obtain ⟨b, off, hao, hT⟩ := unhide HT (fun e => by rw [e] at hlt; simp at hlt)
      obtain ⟨t0, t1, t2, t3, t4, t5, t6, t7, t8⟩ := (hT k hlt).1.bel (unhide BK)
      have CT := hide (fun w' (hB : Below w.heap.size w w') => code_STask (s.ts.getD k task0) k w' (unhide HP _ hB) (task_bel (hT k hlt).2 hB) (unhide HF k hlt) (by omega))
      have HE : Hid (partT s k ++ bl (mkS (taskT (s.ts.getD k task0)) ++ ⟨#[10]⟩) = partT s (k + 1)) := by
        show _ ++ bl (mkS _ ++ mkS [10]) = _
        rw [unhide HN k hlt, mkS_two, bl_mkS, List.append_assoc]
      have hs1 : (partT s k).length ≤ 20000 := by have := unhide HL k hk; omega
      have hs2 : (mkS (taskT (s.ts.getD k task0))).size ≤ 1200 := by rw [mkS_long]; exact task_len (unhide HF k hlt) (by omega)
      have HS : Hid ((mkS (taskT (s.ts.getD k task0)) ++ ⟨#[10]⟩).size ≤ 1201) := by
        show (mkS _ ++ mkS [10]).size ≤ 1201
        rw [mkS_two, mkS_long, List.length_append, ← mkS_long]; simp only [List.length_singleton]; omega
      clear hT
      generalize mkS (taskT (s.ts.getD k task0)) = TT at *
      generalize s.ts.getD k task0 = t at *
      rw [hao]
      go_wp2_with fail
      refine (unhide CT _ ((unhide BK).alloc (unhide BK).size _)).mono ?_
      rintro e w3 ⟨rfl, bel⟩
      have D3 := hide (((unhide DK).bel ((Below.refl _ _).alloc (Nat.le_refl _) _)).bel bel)
      have V3 := hide (bel_up ((unhide VK).alloc (unhide SZ _ (unhide VK)) _) (by have := unhide SZ _ (unhide VK); simp only [World.size_alloc]; omega) bel)
      clear bel t0 t1 t2 t3 t4 t5 t6 t7 t8
      go_wp2_with fail
      refine (wstr_any BB _ (partT s k) _ w3 (unhide D3) (by have := unhide HS; omega) (unhide SZ _ (unhide V3))).mono ?_
      rintro e w4 ⟨rfl, d4, bel⟩
      rw [unhide HE] at d4
      have D4 := hide d4
      have V4 := hide ((unhide V3).trans bel)
      clear bel d4
      go_wp2
      go_roundw
      case rel => exact ⟨k + 1, by omega, by go_num, unhide D4, by rw [← hao]; exact unhide V4⟩
      case measure => simp [intOf]; omega
    · have e : k = s.ts.length := by omega
      subst e
      have CS := hide (bstr_any BB (w.heap.size + 1) _ wr (unhide DK) (part_some s _))
      rw [unhide HA _ (Nat.le_refl _)] at CS
      go_wp2_with fail
      refine (unhide CS).mono ?_
      rintro e w3 ⟨rfl, bel⟩
      have B3 := hide (unhide XB _ ((unhide VK).trans bel))
      clear bel
      go_wp2
      go_ret
      exact ⟨rfl, unhide B3⟩
end Go.Proofs.YtlfmnnngadnkpaaDoor.Lex
