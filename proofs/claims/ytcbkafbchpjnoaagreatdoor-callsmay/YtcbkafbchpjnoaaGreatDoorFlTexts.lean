/-
  package flows: the texts, and what they tell. Written by mkfl.py.
-/
import Derived.Test.YtcbkafbchpjnoaaGreatDoorFlBlock
namespace Go.Proofs.YtcbkafbchpjnoaaGreatDoor
set_option linter.unusedVariables false
set_option linter.unusedSimpArgs false
open Go.RowKit

def enterT : ByteArray := ⟨#[97, 116, 111, 109, 105, 99, 32, 50, 50, 10, 103, 101, 116, 32, 110, 10, 112, 117, 115, 104, 32, 115, 105, 122, 101, 10, 115, 97, 109, 101, 10, 122, 101, 114, 111, 32, 54, 10, 114, 101, 116, 114, 121, 10, 112, 117, 115, 104, 32, 118, 10, 103, 101, 116, 32, 102, 10, 103, 101, 116, 32, 110, 10, 97, 100, 100, 10, 100, 117, 112, 10, 112, 117, 115, 104, 32, 115, 105, 122, 101, 10, 108, 101, 115, 115, 10, 122, 101, 114, 111, 32, 49, 53, 10, 106, 117, 109, 112, 32, 49, 55, 10, 112, 117, 115, 104, 32, 115, 105, 122, 101, 10, 115, 117, 98, 10, 112, 117, 116, 97, 116, 32, 115, 10, 103, 101, 116, 32, 110, 10, 112, 117, 115, 104, 32, 49, 10, 97, 100, 100, 10, 112, 117, 116, 32, 110, 10, 101, 110, 100, 10]⟩

theorem enterT_ok : okT enterT = true := by decide +kernel

def enterI (a t s l v : Int) : List InsD := [insO 21 (a + 22), insO 4 t, insP s, insO 14 0, insO 20 (a + 6), insO 26 0, ⟨1, 0, v⟩, insO 4 (t + 1), insO 4 t, insO 8 0, insO 16 0, insP s, insO 13 0, insO 20 (a + 15), insO 19 (a + 17), insP s, insO 9 0, insO 7 (t + 2), insO 4 t, insP 1, insO 8 0, insO 5 t, insO 22 0]

def enterM (t s l v : Int) : List InsD := [insO 21 22, insO 4 t, insP s, insO 14 0, insO 20 6, insO 26 0, ⟨1, 0, v⟩, insO 4 (t + 1), insO 4 t, insO 8 0, insO 16 0, insP s, insO 13 0, insO 20 15, insO 19 17, insP s, insO 9 0, insO 7 (t + 2), insO 4 t, insP 1, insO 8 0, insO 5 t, insO 22 0]

theorem enterT_rows (a t s l v : Int) : rwT ⟨a, t, s, l, v⟩ enterT enterT.size = enterI a t s l v := by kernel_rfl

theorem enterI_map (a t s l v : Int) : (enterM t s l v).map (shI a) = enterI a t s l v := by
  simp [enterM, enterI, shI, goesP, insO, insP, Int.add_comm]

def takeT : ByteArray := ⟨#[97, 116, 111, 109, 105, 99, 32, 50, 51, 10, 103, 101, 116, 32, 110, 10, 122, 101, 114, 111, 32, 50, 50, 10, 103, 101, 116, 32, 102, 10, 103, 101, 116, 97, 116, 32, 115, 10, 103, 101, 116, 32, 110, 10, 112, 117, 115, 104, 32, 49, 10, 115, 117, 98, 10, 112, 117, 116, 32, 110, 10, 103, 101, 116, 32, 102, 10, 112, 117, 115, 104, 32, 49, 10, 97, 100, 100, 10, 100, 117, 112, 10, 112, 117, 115, 104, 32, 115, 105, 122, 101, 10, 108, 101, 115, 115, 10, 122, 101, 114, 111, 32, 49, 56, 10, 112, 117, 116, 32, 102, 10, 106, 117, 109, 112, 32, 50, 51, 10, 112, 111, 112, 10, 112, 117, 115, 104, 32, 48, 10, 112, 117, 116, 32, 102, 10, 106, 117, 109, 112, 32, 50, 51, 10, 114, 101, 116, 114, 121, 10, 101, 110, 100, 10]⟩

theorem takeT_ok : okT takeT = true := by decide +kernel

def takeI (a t s l v : Int) : List InsD := [insO 21 (a + 23), insO 4 t, insO 20 (a + 22), insO 4 (t + 1), insO 6 (t + 2), insO 4 t, insP 1, insO 9 0, insO 5 t, insO 4 (t + 1), insP 1, insO 8 0, insO 16 0, insP s, insO 13 0, insO 20 (a + 18), insO 5 (t + 1), insO 19 (a + 23), insO 17 0, insP 0, insO 5 (t + 1), insO 19 (a + 23), insO 26 0, insO 22 0]

def takeM (t s l v : Int) : List InsD := [insO 21 23, insO 4 t, insO 20 22, insO 4 (t + 1), insO 6 (t + 2), insO 4 t, insP 1, insO 9 0, insO 5 t, insO 4 (t + 1), insP 1, insO 8 0, insO 16 0, insP s, insO 13 0, insO 20 18, insO 5 (t + 1), insO 19 23, insO 17 0, insP 0, insO 5 (t + 1), insO 19 23, insO 26 0, insO 22 0]

theorem takeT_rows (a t s l v : Int) : rwT ⟨a, t, s, l, v⟩ takeT takeT.size = takeI a t s l v := by kernel_rfl

theorem takeI_map (a t s l v : Int) : (takeM t s l v).map (shI a) = takeI a t s l v := by
  simp [takeM, takeI, shI, goesP, insO, insP, Int.add_comm]

def arriveT : ByteArray := ⟨#[97, 116, 111, 109, 105, 99, 32, 49, 56, 10, 103, 101, 116, 32, 102, 10, 103, 101, 116, 32, 110, 10, 112, 117, 115, 104, 32, 49, 10, 97, 100, 100, 10, 100, 117, 112, 10, 112, 117, 115, 104, 32, 115, 105, 122, 101, 10, 115, 97, 109, 101, 10, 122, 101, 114, 111, 32, 49, 55, 10, 112, 111, 112, 10, 112, 117, 115, 104, 32, 48, 10, 112, 117, 116, 32, 110, 10, 103, 101, 116, 32, 102, 10, 112, 117, 115, 104, 32, 49, 10, 97, 100, 100, 10, 112, 117, 116, 32, 102, 10, 106, 117, 109, 112, 32, 49, 56, 10, 112, 117, 116, 32, 110, 10, 101, 110, 100, 10]⟩

theorem arriveT_ok : okT arriveT = true := by decide +kernel

def arriveI (a t s l v : Int) : List InsD := [insO 21 (a + 18), insO 4 (t + 1), insO 4 t, insP 1, insO 8 0, insO 16 0, insP s, insO 14 0, insO 20 (a + 17), insO 17 0, insP 0, insO 5 t, insO 4 (t + 1), insP 1, insO 8 0, insO 5 (t + 1), insO 19 (a + 18), insO 5 t, insO 22 0]

def arriveM (t s l v : Int) : List InsD := [insO 21 18, insO 4 (t + 1), insO 4 t, insP 1, insO 8 0, insO 16 0, insP s, insO 14 0, insO 20 17, insO 17 0, insP 0, insO 5 t, insO 4 (t + 1), insP 1, insO 8 0, insO 5 (t + 1), insO 19 18, insO 5 t, insO 22 0]

theorem arriveT_rows (a t s l v : Int) : rwT ⟨a, t, s, l, v⟩ arriveT arriveT.size = arriveI a t s l v := by kernel_rfl

theorem arriveI_map (a t s l v : Int) : (arriveM t s l v).map (shI a) = arriveI a t s l v := by
  simp [arriveM, arriveI, shI, goesP, insO, insP, Int.add_comm]

def leaveT : ByteArray := ⟨#[97, 116, 111, 109, 105, 99, 32, 55, 10, 108, 111, 99, 97, 108, 32, 108, 111, 99, 97, 108, 10, 103, 101, 116, 32, 102, 10, 108, 101, 115, 115, 10, 122, 101, 114, 111, 32, 54, 10, 106, 117, 109, 112, 32, 55, 10, 114, 101, 116, 114, 121, 10, 101, 110, 100, 10]⟩

theorem leaveT_ok : okT leaveT = true := by decide +kernel

def leaveI (a t s l v : Int) : List InsD := [insO 21 (a + 7), insO 2 l, insO 4 (t + 1), insO 13 0, insO 20 (a + 6), insO 19 (a + 7), insO 26 0, insO 22 0]

def leaveM (t s l v : Int) : List InsD := [insO 21 7, insO 2 l, insO 4 (t + 1), insO 13 0, insO 20 6, insO 19 7, insO 26 0, insO 22 0]

theorem leaveT_rows (a t s l v : Int) : rwT ⟨a, t, s, l, v⟩ leaveT leaveT.size = leaveI a t s l v := by kernel_rfl

theorem leaveI_map (a t s l v : Int) : (leaveM t s l v).map (shI a) = leaveI a t s l v := by
  simp [leaveM, leaveI, shI, goesP, insO, insP, Int.add_comm]


end Go.Proofs.YtcbkafbchpjnoaaGreatDoor
