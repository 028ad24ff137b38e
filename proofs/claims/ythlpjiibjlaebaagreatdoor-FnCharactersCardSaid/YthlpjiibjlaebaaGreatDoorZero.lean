/- The sum of a character's values is 0 just where turning the counts by each number that divides the exponent, and taking them off, leaves nothing. -/
import Derived.Test.YthlpjiibjlaebaaGreatDoorMGAM
namespace Go.Proofs.YthlpjiibjlaebaaGreatDoor
/-- The cyclotomic polynomials of 1 to 24, written out. -/
def phTab : List (List Int) := [
  [],
  [(-1), 1],
  [1, 1],
  [1, 1, 1],
  [1, 0, 1],
  [1, 1, 1, 1, 1],
  [1, (-1), 1],
  [1, 1, 1, 1, 1, 1, 1],
  [1, 0, 0, 0, 1],
  [1, 0, 0, 1, 0, 0, 1],
  [1, (-1), 1, (-1), 1],
  [1, 1, 1, 1, 1, 1, 1, 1, 1, 1, 1],
  [1, 0, (-1), 0, 1],
  [1, 1, 1, 1, 1, 1, 1, 1, 1, 1, 1, 1, 1],
  [1, (-1), 1, (-1), 1, (-1), 1],
  [1, (-1), 0, 1, (-1), 1, 0, (-1), 1],
  [1, 0, 0, 0, 0, 0, 0, 0, 1],
  [1, 1, 1, 1, 1, 1, 1, 1, 1, 1, 1, 1, 1, 1, 1, 1, 1],
  [1, 0, 0, (-1), 0, 0, 1],
  [1, 1, 1, 1, 1, 1, 1, 1, 1, 1, 1, 1, 1, 1, 1, 1, 1, 1, 1],
  [1, 0, (-1), 0, 1, 0, (-1), 0, 1],
  [1, (-1), 0, 1, (-1), 0, 1, 0, (-1), 1, 0, (-1), 1],
  [1, (-1), 1, (-1), 1, (-1), 1, (-1), 1, (-1), 1],
  [1, 1, 1, 1, 1, 1, 1, 1, 1, 1, 1, 1, 1, 1, 1, 1, 1, 1, 1, 1, 1, 1, 1],
  [1, 0, 0, 0, (-1), 0, 0, 0, 1]]
/-- What the rounds make of 1. -/
def fTab : List (List Int) := [
  [],
  [1],
  [(-1), 1],
  [(-1), 1, 0],
  [1, (-1), (-1), 1],
  [(-1), 1, 0, 0, 0],
  [0, 1, 1, 0, (-1), (-1)],
  [(-1), 1, 0, 0, 0, 0, 0],
  [(-1), 1, 1, (-1), 1, (-1), (-1), 1],
  [1, (-1), 0, (-1), 1, 0, 0, 0, 0],
  [(-1), 1, 1, (-1), 0, 1, (-1), (-1), 1, 0],
  [(-1), 1, 0, 0, 0, 0, 0, 0, 0, 0, 0],
  [(-1), 1, 0, (-1), 1, (-2), 1, (-1), 0, 1, (-1), 2],
  [(-1), 1, 0, 0, 0, 0, 0, 0, 0, 0, 0, 0, 0],
  [(-1), 1, 1, (-1), 0, 0, 0, 1, (-1), (-1), 1, 0, 0, 0],
  [(-1), 1, 0, 1, (-1), 1, (-1), 0, (-1), 1, 0, 0, 0, 0, 0],
  [1, (-1), (-1), 1, (-1), 1, 1, (-1), (-1), 1, 1, (-1), 1, (-1), (-1), 1],
  [(-1), 1, 0, 0, 0, 0, 0, 0, 0, 0, 0, 0, 0, 0, 0, 0, 0],
  [(-1), 0, 0, 1, (-1), (-1), 2, (-1), (-1), 1, 0, 0, (-1), 1, 1, (-2), 1, 1],
  [(-1), 1, 0, 0, 0, 0, 0, 0, 0, 0, 0, 0, 0, 0, 0, 0, 0, 0, 0],
  [(-2), 0, 2, (-1), 1, 0, (-2), 0, 1, (-1), 2, 0, (-2), 1, (-1), 0, 2, 0, (-1), 1],
  [(-1), 1, 0, 1, (-1), 0, 0, 1, (-1), 0, (-1), 1, 0, 0, 0, 0, 0, 0, 0, 0, 0],
  [(-1), 1, 1, (-1), 0, 0, 0, 0, 0, 0, 0, 1, (-1), (-1), 1, 0, 0, 0, 0, 0, 0, 0],
  [(-1), 1, 0, 0, 0, 0, 0, 0, 0, 0, 0, 0, 0, 0, 0, 0, 0, 0, 0, 0, 0, 0, 0],
  [(-2), (-1), 3, 0, (-1), (-1), 0, 1, 1, 0, (-3), 1, 2, 1, (-3), 0, 1, 1, 0, (-1), (-1), 0, 3, (-1)]]
def cTab : List Int := [0, 1, 1, 1, 2, 1, 1, 1, 2, 3, 1, 1, 2, 1, 1, 1, 2, 1, 3, 1, 2, 1, 1, 1, 2]
def bT0 : List (List Int) := [
  ]
def bT1 : List (List Int) := [
  [1]]
def bT2 : List (List Int) := [
  [(-1), 0]]
def bT3 : List (List Int) := [
  [(-1), 0, 0],
  [(-1), (-1), 0]]
def bT4 : List (List Int) := [
  [1, (-1), 0, 0],
  [1, 1, 0, 0]]
def bT5 : List (List Int) := [
  [(-1), 0, 0, 0, 0],
  [(-1), (-1), 0, 0, 0],
  [(-1), (-1), (-1), 0, 0],
  [(-1), (-1), (-1), (-1), 0]]
def bT6 : List (List Int) := [
  [0, 1, 0, 0, 0, 0],
  [(-1), 0, 0, 0, 0, 0]]
def bT7 : List (List Int) := [
  [(-1), 0, 0, 0, 0, 0, 0],
  [(-1), (-1), 0, 0, 0, 0, 0],
  [(-1), (-1), (-1), 0, 0, 0, 0],
  [(-1), (-1), (-1), (-1), 0, 0, 0],
  [(-1), (-1), (-1), (-1), (-1), 0, 0],
  [(-1), (-1), (-1), (-1), (-1), (-1), 0]]
def bT8 : List (List Int) := [
  [0, 1, 1, 0, 0, 0, 0, 0],
  [0, 0, 1, 1, 0, 0, 0, 0],
  [(-1), 0, 0, 1, 0, 0, 0, 0],
  [(-1), (-1), 0, 0, 0, 0, 0, 0]]
def bT9 : List (List Int) := [
  [1, (-2), (-2), (-1), (-1), (-1), 0, 0, 0],
  [1, 1, (-2), (-1), (-1), (-1), 0, 0, 0],
  [1, 1, 1, (-1), (-1), (-1), 0, 0, 0],
  [2, (-1), (-1), 1, (-2), (-2), 0, 0, 0],
  [2, 2, (-1), 1, 1, (-2), 0, 0, 0],
  [2, 2, 2, 1, 1, 1, 0, 0, 0]]
def bT10 : List (List Int) := [
  [1, 1, 1, 0, 0, 0, 0, 0, 0, 0],
  [(-1), 0, 0, 1, 0, 0, 0, 0, 0, 0],
  [0, 1, 0, 1, 0, 0, 0, 0, 0, 0],
  [(-2), 0, (-1), 1, 0, 0, 0, 0, 0, 0]]
def bT11 : List (List Int) := [
  [(-1), 0, 0, 0, 0, 0, 0, 0, 0, 0, 0],
  [(-1), (-1), 0, 0, 0, 0, 0, 0, 0, 0, 0],
  [(-1), (-1), (-1), 0, 0, 0, 0, 0, 0, 0, 0],
  [(-1), (-1), (-1), (-1), 0, 0, 0, 0, 0, 0, 0],
  [(-1), (-1), (-1), (-1), (-1), 0, 0, 0, 0, 0, 0],
  [(-1), (-1), (-1), (-1), (-1), (-1), 0, 0, 0, 0, 0],
  [(-1), (-1), (-1), (-1), (-1), (-1), (-1), 0, 0, 0, 0],
  [(-1), (-1), (-1), (-1), (-1), (-1), (-1), (-1), 0, 0, 0],
  [(-1), (-1), (-1), (-1), (-1), (-1), (-1), (-1), (-1), 0, 0],
  [(-1), (-1), (-1), (-1), (-1), (-1), (-1), (-1), (-1), (-1), 0]]
def bT12 : List (List Int) := [
  [1, 1, (-1), (-2), 0, 0, 0, 0, 0, 0, 0, 0],
  [2, 1, (-1), (-1), 0, 0, 0, 0, 0, 0, 0, 0],
  [0, 1, 1, 1, 0, 0, 0, 0, 0, 0, 0, 0],
  [(-1), 0, 2, 1, 0, 0, 0, 0, 0, 0, 0, 0]]
def bT13 : List (List Int) := [
  [(-1), 0, 0, 0, 0, 0, 0, 0, 0, 0, 0, 0, 0],
  [(-1), (-1), 0, 0, 0, 0, 0, 0, 0, 0, 0, 0, 0],
  [(-1), (-1), (-1), 0, 0, 0, 0, 0, 0, 0, 0, 0, 0],
  [(-1), (-1), (-1), (-1), 0, 0, 0, 0, 0, 0, 0, 0, 0],
  [(-1), (-1), (-1), (-1), (-1), 0, 0, 0, 0, 0, 0, 0, 0],
  [(-1), (-1), (-1), (-1), (-1), (-1), 0, 0, 0, 0, 0, 0, 0],
  [(-1), (-1), (-1), (-1), (-1), (-1), (-1), 0, 0, 0, 0, 0, 0],
  [(-1), (-1), (-1), (-1), (-1), (-1), (-1), (-1), 0, 0, 0, 0, 0],
  [(-1), (-1), (-1), (-1), (-1), (-1), (-1), (-1), (-1), 0, 0, 0, 0],
  [(-1), (-1), (-1), (-1), (-1), (-1), (-1), (-1), (-1), (-1), 0, 0, 0],
  [(-1), (-1), (-1), (-1), (-1), (-1), (-1), (-1), (-1), (-1), (-1), 0, 0],
  [(-1), (-1), (-1), (-1), (-1), (-1), (-1), (-1), (-1), (-1), (-1), (-1), 0]]
def bT14 : List (List Int) := [
  [2, 1, 2, 0, 1, (-1), 0, 0, 0, 0, 0, 0, 0, 0],
  [(-1), 0, 0, 1, 0, 1, 0, 0, 0, 0, 0, 0, 0, 0],
  [1, 1, 1, 1, 1, 0, 0, 0, 0, 0, 0, 0, 0, 0],
  [(-2), 0, (-1), 1, 0, 2, 0, 0, 0, 0, 0, 0, 0, 0],
  [0, 1, 0, 1, 0, 1, 0, 0, 0, 0, 0, 0, 0, 0],
  [(-3), 0, (-2), 1, (-1), 2, 0, 0, 0, 0, 0, 0, 0, 0]]
def bT15 : List (List Int) := [
  [3, 1, 0, 2, (-1), 1, 1, (-2), 0, 0, 0, 0, 0, 0, 0],
  [(-1), 0, 1, 0, 1, 0, 0, 1, 0, 0, 0, 0, 0, 0, 0],
  [(-1), 0, 0, 0, 1, 0, 0, 1, 0, 0, 0, 0, 0, 0, 0],
  [2, 1, 0, 1, 0, 1, 1, (-1), 0, 0, 0, 0, 0, 0, 0],
  [(-2), 0, 1, (-1), 1, 0, 0, 2, 0, 0, 0, 0, 0, 0, 0],
  [1, 1, 0, 1, 0, 0, 1, 0, 0, 0, 0, 0, 0, 0, 0],
  [0, 1, 1, 0, 1, 0, 0, 1, 0, 0, 0, 0, 0, 0, 0],
  [(-4), 0, 1, (-2), 2, (-1), (-1), 3, 0, 0, 0, 0, 0, 0, 0]]
def bT16 : List (List Int) := [
  [(-1), (-1), (-1), 0, 0, 1, 1, 1, 0, 0, 0, 0, 0, 0, 0, 0],
  [(-1), (-1), (-1), (-1), 0, 0, 1, 1, 0, 0, 0, 0, 0, 0, 0, 0],
  [(-1), (-1), (-1), (-1), (-1), 0, 0, 1, 0, 0, 0, 0, 0, 0, 0, 0],
  [(-1), (-1), (-1), (-1), (-1), (-1), 0, 0, 0, 0, 0, 0, 0, 0, 0, 0],
  [0, (-1), (-1), (-1), (-1), (-1), (-1), 0, 0, 0, 0, 0, 0, 0, 0, 0],
  [0, 0, (-1), (-1), (-1), (-1), (-1), (-1), 0, 0, 0, 0, 0, 0, 0, 0],
  [1, 0, 0, (-1), (-1), (-1), (-1), (-1), 0, 0, 0, 0, 0, 0, 0, 0],
  [1, 1, 0, 0, (-1), (-1), (-1), (-1), 0, 0, 0, 0, 0, 0, 0, 0]]
def bT17 : List (List Int) := [
  [(-1), 0, 0, 0, 0, 0, 0, 0, 0, 0, 0, 0, 0, 0, 0, 0, 0],
  [(-1), (-1), 0, 0, 0, 0, 0, 0, 0, 0, 0, 0, 0, 0, 0, 0, 0],
  [(-1), (-1), (-1), 0, 0, 0, 0, 0, 0, 0, 0, 0, 0, 0, 0, 0, 0],
  [(-1), (-1), (-1), (-1), 0, 0, 0, 0, 0, 0, 0, 0, 0, 0, 0, 0, 0],
  [(-1), (-1), (-1), (-1), (-1), 0, 0, 0, 0, 0, 0, 0, 0, 0, 0, 0, 0],
  [(-1), (-1), (-1), (-1), (-1), (-1), 0, 0, 0, 0, 0, 0, 0, 0, 0, 0, 0],
  [(-1), (-1), (-1), (-1), (-1), (-1), (-1), 0, 0, 0, 0, 0, 0, 0, 0, 0, 0],
  [(-1), (-1), (-1), (-1), (-1), (-1), (-1), (-1), 0, 0, 0, 0, 0, 0, 0, 0, 0],
  [(-1), (-1), (-1), (-1), (-1), (-1), (-1), (-1), (-1), 0, 0, 0, 0, 0, 0, 0, 0],
  [(-1), (-1), (-1), (-1), (-1), (-1), (-1), (-1), (-1), (-1), 0, 0, 0, 0, 0, 0, 0],
  [(-1), (-1), (-1), (-1), (-1), (-1), (-1), (-1), (-1), (-1), (-1), 0, 0, 0, 0, 0, 0],
  [(-1), (-1), (-1), (-1), (-1), (-1), (-1), (-1), (-1), (-1), (-1), (-1), 0, 0, 0, 0, 0],
  [(-1), (-1), (-1), (-1), (-1), (-1), (-1), (-1), (-1), (-1), (-1), (-1), (-1), 0, 0, 0, 0],
  [(-1), (-1), (-1), (-1), (-1), (-1), (-1), (-1), (-1), (-1), (-1), (-1), (-1), (-1), 0, 0, 0],
  [(-1), (-1), (-1), (-1), (-1), (-1), (-1), (-1), (-1), (-1), (-1), (-1), (-1), (-1), (-1), 0, 0],
  [(-1), (-1), (-1), (-1), (-1), (-1), (-1), (-1), (-1), (-1), (-1), (-1), (-1), (-1), (-1), (-1), 0]]
def bT18 : List (List Int) := [
  [2, 1, (-1), (-4), (-5), (-4), 0, 0, 0, 0, 0, 0, 0, 0, 0, 0, 0, 0],
  [4, 2, 1, (-5), (-4), (-5), 0, 0, 0, 0, 0, 0, 0, 0, 0, 0, 0, 0],
  [5, 4, 2, (-4), (-5), (-4), 0, 0, 0, 0, 0, 0, 0, 0, 0, 0, 0, 0],
  [2, 4, 5, 2, 1, (-1), 0, 0, 0, 0, 0, 0, 0, 0, 0, 0, 0, 0],
  [1, 2, 4, 4, 2, 1, 0, 0, 0, 0, 0, 0, 0, 0, 0, 0, 0, 0],
  [(-1), 1, 2, 5, 4, 2, 0, 0, 0, 0, 0, 0, 0, 0, 0, 0, 0, 0]]
def bT19 : List (List Int) := [
  [(-1), 0, 0, 0, 0, 0, 0, 0, 0, 0, 0, 0, 0, 0, 0, 0, 0, 0, 0],
  [(-1), (-1), 0, 0, 0, 0, 0, 0, 0, 0, 0, 0, 0, 0, 0, 0, 0, 0, 0],
  [(-1), (-1), (-1), 0, 0, 0, 0, 0, 0, 0, 0, 0, 0, 0, 0, 0, 0, 0, 0],
  [(-1), (-1), (-1), (-1), 0, 0, 0, 0, 0, 0, 0, 0, 0, 0, 0, 0, 0, 0, 0],
  [(-1), (-1), (-1), (-1), (-1), 0, 0, 0, 0, 0, 0, 0, 0, 0, 0, 0, 0, 0, 0],
  [(-1), (-1), (-1), (-1), (-1), (-1), 0, 0, 0, 0, 0, 0, 0, 0, 0, 0, 0, 0, 0],
  [(-1), (-1), (-1), (-1), (-1), (-1), (-1), 0, 0, 0, 0, 0, 0, 0, 0, 0, 0, 0, 0],
  [(-1), (-1), (-1), (-1), (-1), (-1), (-1), (-1), 0, 0, 0, 0, 0, 0, 0, 0, 0, 0, 0],
  [(-1), (-1), (-1), (-1), (-1), (-1), (-1), (-1), (-1), 0, 0, 0, 0, 0, 0, 0, 0, 0, 0],
  [(-1), (-1), (-1), (-1), (-1), (-1), (-1), (-1), (-1), (-1), 0, 0, 0, 0, 0, 0, 0, 0, 0],
  [(-1), (-1), (-1), (-1), (-1), (-1), (-1), (-1), (-1), (-1), (-1), 0, 0, 0, 0, 0, 0, 0, 0],
  [(-1), (-1), (-1), (-1), (-1), (-1), (-1), (-1), (-1), (-1), (-1), (-1), 0, 0, 0, 0, 0, 0, 0],
  [(-1), (-1), (-1), (-1), (-1), (-1), (-1), (-1), (-1), (-1), (-1), (-1), (-1), 0, 0, 0, 0, 0, 0],
  [(-1), (-1), (-1), (-1), (-1), (-1), (-1), (-1), (-1), (-1), (-1), (-1), (-1), (-1), 0, 0, 0, 0, 0],
  [(-1), (-1), (-1), (-1), (-1), (-1), (-1), (-1), (-1), (-1), (-1), (-1), (-1), (-1), (-1), 0, 0, 0, 0],
  [(-1), (-1), (-1), (-1), (-1), (-1), (-1), (-1), (-1), (-1), (-1), (-1), (-1), (-1), (-1), (-1), 0, 0, 0],
  [(-1), (-1), (-1), (-1), (-1), (-1), (-1), (-1), (-1), (-1), (-1), (-1), (-1), (-1), (-1), (-1), (-1), 0, 0],
  [(-1), (-1), (-1), (-1), (-1), (-1), (-1), (-1), (-1), (-1), (-1), (-1), (-1), (-1), (-1), (-1), (-1), (-1), 0]]
def bT20 : List (List Int) := [
  [1, 0, (-2), (-3), (-1), (-2), (-3), (-3), 0, 0, 0, 0, 0, 0, 0, 0, 0, 0, 0, 0],
  [3, 1, (-3), (-2), 0, (-1), (-5), (-3), 0, 0, 0, 0, 0, 0, 0, 0, 0, 0, 0, 0],
  [2, 3, 0, 0, 2, 2, (-1), (-2), 0, 0, 0, 0, 0, 0, 0, 0, 0, 0, 0, 0],
  [2, 2, 1, 0, 2, 2, 0, (-1), 0, 0, 0, 0, 0, 0, 0, 0, 0, 0, 0, 0],
  [2, 2, (-1), (-2), 0, 0, (-2), (-3), 0, 0, 0, 0, 0, 0, 0, 0, 0, 0, 0, 0],
  [3, 2, (-1), (-1), 1, 0, (-3), (-2), 0, 0, 0, 0, 0, 0, 0, 0, 0, 0, 0, 0],
  [1, 3, 2, 2, 2, 3, 1, 0, 0, 0, 0, 0, 0, 0, 0, 0, 0, 0, 0, 0],
  [0, 1, 3, 2, 2, 2, 3, 1, 0, 0, 0, 0, 0, 0, 0, 0, 0, 0, 0, 0]]
def bT21 : List (List Int) := [
  [5, 1, 0, 4, (-1), (-2), 2, 2, (-3), 1, 1, (-4), 0, 0, 0, 0, 0, 0, 0, 0, 0],
  [(-1), 0, 1, 0, 1, 1, 0, 0, 1, 0, 0, 1, 0, 0, 0, 0, 0, 0, 0, 0, 0],
  [(-1), 0, 0, 0, 1, 1, 0, 0, 1, 0, 0, 1, 0, 0, 0, 0, 0, 0, 0, 0, 0],
  [4, 1, 0, 3, 0, (-1), 2, 2, (-2), 1, 1, (-3), 0, 0, 0, 0, 0, 0, 0, 0, 0],
  [(-2), 0, 1, (-1), 1, 2, 0, 0, 2, 0, 0, 2, 0, 0, 0, 0, 0, 0, 0, 0, 0],
  [(-2), 0, 0, (-1), 1, 1, 0, 0, 2, 0, 0, 2, 0, 0, 0, 0, 0, 0, 0, 0, 0],
  [3, 1, 0, 2, 0, (-1), 1, 2, (-1), 1, 1, (-2), 0, 0, 0, 0, 0, 0, 0, 0, 0],
  [2, 1, 1, 2, 0, 0, 1, 1, 0, 1, 1, (-1), 0, 0, 0, 0, 0, 0, 0, 0, 0],
  [(-4), 0, 1, (-2), 2, 2, (-1), (-1), 3, 0, 0, 4, 0, 0, 0, 0, 0, 0, 0, 0, 0],
  [1, 1, 0, 1, 1, 0, 0, 1, 0, 0, 1, 0, 0, 0, 0, 0, 0, 0, 0, 0, 0],
  [0, 1, 1, 0, 1, 1, 0, 0, 1, 0, 0, 1, 0, 0, 0, 0, 0, 0, 0, 0, 0],
  [(-6), 0, 1, (-4), 2, 3, (-2), (-2), 4, (-1), (-1), 5, 0, 0, 0, 0, 0, 0, 0, 0, 0]]
def bT22 : List (List Int) := [
  [4, 1, 4, 0, 3, (-1), 2, (-2), 1, (-3), 0, 0, 0, 0, 0, 0, 0, 0, 0, 0, 0, 0],
  [(-1), 0, 0, 1, 0, 1, 0, 1, 0, 1, 0, 0, 0, 0, 0, 0, 0, 0, 0, 0, 0, 0],
  [3, 1, 3, 1, 3, 0, 2, (-1), 1, (-2), 0, 0, 0, 0, 0, 0, 0, 0, 0, 0, 0, 0],
  [(-2), 0, (-1), 1, 0, 2, 0, 2, 0, 2, 0, 0, 0, 0, 0, 0, 0, 0, 0, 0, 0, 0],
  [2, 1, 2, 1, 2, 1, 2, 0, 1, (-1), 0, 0, 0, 0, 0, 0, 0, 0, 0, 0, 0, 0],
  [(-3), 0, (-2), 1, (-1), 2, 0, 3, 0, 3, 0, 0, 0, 0, 0, 0, 0, 0, 0, 0, 0, 0],
  [1, 1, 1, 1, 1, 1, 1, 1, 1, 0, 0, 0, 0, 0, 0, 0, 0, 0, 0, 0, 0, 0],
  [(-4), 0, (-3), 1, (-2), 2, (-1), 3, 0, 4, 0, 0, 0, 0, 0, 0, 0, 0, 0, 0, 0, 0],
  [0, 1, 0, 1, 0, 1, 0, 1, 0, 1, 0, 0, 0, 0, 0, 0, 0, 0, 0, 0, 0, 0],
  [(-5), 0, (-4), 1, (-3), 2, (-2), 3, (-1), 4, 0, 0, 0, 0, 0, 0, 0, 0, 0, 0, 0, 0]]
def bT23 : List (List Int) := [
  [(-1), 0, 0, 0, 0, 0, 0, 0, 0, 0, 0, 0, 0, 0, 0, 0, 0, 0, 0, 0, 0, 0, 0],
  [(-1), (-1), 0, 0, 0, 0, 0, 0, 0, 0, 0, 0, 0, 0, 0, 0, 0, 0, 0, 0, 0, 0, 0],
  [(-1), (-1), (-1), 0, 0, 0, 0, 0, 0, 0, 0, 0, 0, 0, 0, 0, 0, 0, 0, 0, 0, 0, 0],
  [(-1), (-1), (-1), (-1), 0, 0, 0, 0, 0, 0, 0, 0, 0, 0, 0, 0, 0, 0, 0, 0, 0, 0, 0],
  [(-1), (-1), (-1), (-1), (-1), 0, 0, 0, 0, 0, 0, 0, 0, 0, 0, 0, 0, 0, 0, 0, 0, 0, 0],
  [(-1), (-1), (-1), (-1), (-1), (-1), 0, 0, 0, 0, 0, 0, 0, 0, 0, 0, 0, 0, 0, 0, 0, 0, 0],
  [(-1), (-1), (-1), (-1), (-1), (-1), (-1), 0, 0, 0, 0, 0, 0, 0, 0, 0, 0, 0, 0, 0, 0, 0, 0],
  [(-1), (-1), (-1), (-1), (-1), (-1), (-1), (-1), 0, 0, 0, 0, 0, 0, 0, 0, 0, 0, 0, 0, 0, 0, 0],
  [(-1), (-1), (-1), (-1), (-1), (-1), (-1), (-1), (-1), 0, 0, 0, 0, 0, 0, 0, 0, 0, 0, 0, 0, 0, 0],
  [(-1), (-1), (-1), (-1), (-1), (-1), (-1), (-1), (-1), (-1), 0, 0, 0, 0, 0, 0, 0, 0, 0, 0, 0, 0, 0],
  [(-1), (-1), (-1), (-1), (-1), (-1), (-1), (-1), (-1), (-1), (-1), 0, 0, 0, 0, 0, 0, 0, 0, 0, 0, 0, 0],
  [(-1), (-1), (-1), (-1), (-1), (-1), (-1), (-1), (-1), (-1), (-1), (-1), 0, 0, 0, 0, 0, 0, 0, 0, 0, 0, 0],
  [(-1), (-1), (-1), (-1), (-1), (-1), (-1), (-1), (-1), (-1), (-1), (-1), (-1), 0, 0, 0, 0, 0, 0, 0, 0, 0, 0],
  [(-1), (-1), (-1), (-1), (-1), (-1), (-1), (-1), (-1), (-1), (-1), (-1), (-1), (-1), 0, 0, 0, 0, 0, 0, 0, 0, 0],
  [(-1), (-1), (-1), (-1), (-1), (-1), (-1), (-1), (-1), (-1), (-1), (-1), (-1), (-1), (-1), 0, 0, 0, 0, 0, 0, 0, 0],
  [(-1), (-1), (-1), (-1), (-1), (-1), (-1), (-1), (-1), (-1), (-1), (-1), (-1), (-1), (-1), (-1), 0, 0, 0, 0, 0, 0, 0],
  [(-1), (-1), (-1), (-1), (-1), (-1), (-1), (-1), (-1), (-1), (-1), (-1), (-1), (-1), (-1), (-1), (-1), 0, 0, 0, 0, 0, 0],
  [(-1), (-1), (-1), (-1), (-1), (-1), (-1), (-1), (-1), (-1), (-1), (-1), (-1), (-1), (-1), (-1), (-1), (-1), 0, 0, 0, 0, 0],
  [(-1), (-1), (-1), (-1), (-1), (-1), (-1), (-1), (-1), (-1), (-1), (-1), (-1), (-1), (-1), (-1), (-1), (-1), (-1), 0, 0, 0, 0],
  [(-1), (-1), (-1), (-1), (-1), (-1), (-1), (-1), (-1), (-1), (-1), (-1), (-1), (-1), (-1), (-1), (-1), (-1), (-1), (-1), 0, 0, 0],
  [(-1), (-1), (-1), (-1), (-1), (-1), (-1), (-1), (-1), (-1), (-1), (-1), (-1), (-1), (-1), (-1), (-1), (-1), (-1), (-1), (-1), 0, 0],
  [(-1), (-1), (-1), (-1), (-1), (-1), (-1), (-1), (-1), (-1), (-1), (-1), (-1), (-1), (-1), (-1), (-1), (-1), (-1), (-1), (-1), (-1), 0]]
def bT24 : List (List Int) := [
  [(-4), (-4), (-3), (-3), 2, 3, 3, 4, 0, 0, 0, 0, 0, 0, 0, 0, 0, 0, 0, 0, 0, 0, 0, 0],
  [(-4), (-4), (-4), (-3), 1, 2, 3, 3, 0, 0, 0, 0, 0, 0, 0, 0, 0, 0, 0, 0, 0, 0, 0, 0],
  [(-3), (-4), (-4), (-4), 0, 1, 2, 3, 0, 0, 0, 0, 0, 0, 0, 0, 0, 0, 0, 0, 0, 0, 0, 0],
  [(-3), (-3), (-4), (-4), (-1), 0, 1, 2, 0, 0, 0, 0, 0, 0, 0, 0, 0, 0, 0, 0, 0, 0, 0, 0],
  [2, 1, 0, (-1), (-4), (-4), (-3), (-3), 0, 0, 0, 0, 0, 0, 0, 0, 0, 0, 0, 0, 0, 0, 0, 0],
  [3, 2, 1, 0, (-4), (-4), (-4), (-3), 0, 0, 0, 0, 0, 0, 0, 0, 0, 0, 0, 0, 0, 0, 0, 0],
  [3, 3, 2, 1, (-3), (-4), (-4), (-4), 0, 0, 0, 0, 0, 0, 0, 0, 0, 0, 0, 0, 0, 0, 0, 0],
  [4, 3, 3, 2, (-3), (-3), (-4), (-4), 0, 0, 0, 0, 0, 0, 0, 0, 0, 0, 0, 0, 0, 0, 0, 0]]
/-- What leads back, times a number that is not 0. -/
def bTab : List (List (List Int)) := [bT0, bT1, bT2, bT3, bT4, bT5, bT6, bT7, bT8, bT9, bT10, bT11, bT12, bT13, bT14, bT15, bT16, bT17, bT18, bT19, bT20, bT21, bT22, bT23, bT24]
/-- Turned by d places, less itself. -/
def rotS (e d : Nat) (p : List Int) : List Int := (List.range e).map fun z => p.getD ((z + e - d) % e) 0 - p.getD z 0
/-- The rounds of the numbers below k that divide e. -/
def rotK (e : Nat) (p : List Int) : Nat → List Int
  | 0 => p
  | k + 1 => if k = 0 then rotK e p k else if e % k = 0 then rotS e k (rotK e p k) else rotK e p k
def unitL (e : Nat) : List Int := (List.range e).map fun z => if z = 0 then 1 else 0
/-- The first n terms of the product's number at z. -/
def cvT (r F : List Int) (e z : Nat) : Nat → Int
  | 0 => 0
  | i + 1 => cvT r F e z i + r.getD i 0 * F.getD ((z + e - i) % e) 0
def bsT (B F : List Int) (e j : Nat) : Nat → Int
  | 0 => 0
  | z + 1 => bsT B F e j z + B.getD z 0 * F.getD ((z + e - j) % e) 0
theorem rng_getD (f : Nat → Int) {e m : Nat} (h : m < e) : ((List.range e).map f).getD m 0 = f m := by simp [List.getD, h]
theorem rotS_getD {e d : Nat} (p : List Int) {m : Nat} (h : m < e) : (rotS e d p).getD m 0 = p.getD ((m + e - d) % e) 0 - p.getD m 0 := rng_getD _ h
theorem mod_sw {e z d i : Nat} (hd : d ≤ e) (hi : i ≤ e) : ((z + e - d) % e + e - i) % e = ((z + e - i) % e + e - d) % e := by
  have h1 : (z + e - d) % e + e - i = (z + e - d) % e + (e - i) := by omega
  have h2 : (z + e - i) % e + e - d = (z + e - i) % e + (e - d) := by omega
  rw [h1, h2, Nat.mod_add_mod, Nat.mod_add_mod]
  congr 1
  omega
theorem cvT_rot {e d z : Nat} (he : 0 < e) (hd : d ≤ e) (p F : List Int) : ∀ n, n ≤ e → cvT p (rotS e d F) e z n = cvT p F e ((z + e - d) % e) n - cvT p F e z n
  | 0, _ => rfl
  | n + 1, hn => by
    simp only [cvT]
    rw [cvT_rot he hd p F n (by omega), rotS_getD F (Nat.mod_lt _ he), mod_sw hd (by omega : n ≤ e), Int.mul_sub]
    omega
theorem cvT_unit {e z : Nat} (p : List Int) (hz : z < e) : ∀ n, n ≤ e → cvT p (unitL e) e z n = if z < n then p.getD z 0 else 0
  | 0, _ => by simp [cvT]
  | n + 1, hn => by
    simp only [cvT]
    have he : 0 < e := by omega
    rw [cvT_unit p hz n (by omega)]
    unfold unitL
    rw [rng_getD _ (Nat.mod_lt _ he)]
    by_cases h1 : z = n
    · subst h1
      rw [show z + e - z = e by omega, Nat.mod_self]
      simp
    · have h2 : (z + e - n) % e ≠ 0 := by
        by_cases h3 : n < z
        · rw [show z + e - n = (z - n) + e by omega, Nat.add_mod_right, Nat.mod_eq_of_lt (by omega)]
          omega
        · rw [Nat.mod_eq_of_lt (by omega)]
          omega
      rw [if_neg h2, Int.mul_zero, Int.add_zero]
      by_cases h4 : z < n
      · rw [if_pos h4, if_pos (by omega)]
      · rw [if_neg h4, if_neg (by omega)]
theorem rotK_len {e : Nat} {p : List Int} (hp : p.length = e) : ∀ k, (rotK e p k).length = e
  | 0 => hp
  | k + 1 => by
    simp only [rotK]
    split
    · exact rotK_len hp k
    · split
      · simp [rotS]
      · exact rotK_len hp k
/-- The rounds are one product with what they make of 1. -/
theorem rotK_cv {e : Nat} {p : List Int} (he : 0 < e) (hp : p.length = e) : ∀ k, k ≤ e → ∀ z, z < e → (rotK e p k).getD z 0 = cvT p (rotK e (unitL e) k) e z e
  | 0, _, z, hz => by
    simp only [rotK]
    rw [cvT_unit p hz e (Nat.le_refl _), if_pos hz]
  | k + 1, hk, z, hz => by
    have ih := rotK_cv he hp k (by omega)
    simp only [rotK]
    split
    · exact ih z hz
    · split
      · rw [rotS_getD _ hz, cvT_rot he (by omega) _ _ e (Nat.le_refl _), ih z hz, ih _ (Nat.mod_lt _ he)]
      · exact ih z hz
theorem cvT_set {r F : List Int} {e z m : Nat} (v : Int) (hm : m < r.length) : ∀ n, cvT (r.set m v) F e z n = cvT r F e z n + (if m < n then (v - r.getD m 0) * F.getD ((z + e - m) % e) 0 else 0)
  | 0 => by simp [cvT]
  | n + 1 => by
    simp only [cvT]
    rw [cvT_set v hm n]
    by_cases h : m = n
    · subst h
      have h1 : (r.set m v).getD m 0 = v := by simp [List.getD, hm]
      rw [h1, if_neg (by omega), if_pos (by omega), Int.sub_mul]
      omega
    · have h1 : (r.set m v).getD n 0 = r.getD n 0 := by simp [List.getD, h]
      rw [h1]
      by_cases h2 : m < n
      · rw [if_pos h2, if_pos (by omega)]
        omega
      · rw [if_neg h2, if_neg (by omega)]
        omega
theorem subP7_len (d : List Int) (i : Nat) (f : Int) (r : List Int) : ∀ k, (subP7 d i f r k).length = r.length
  | 0 => rfl
  | k + 1 => by
    simp only [subP7]
    rw [List.length_set, subP7_len d i f r k]
theorem cvT_sub {d r F : List Int} {e z i : Nat} {f : Int} (hr : r.length = e) : ∀ k, i + k ≤ e → cvT (subP7 d i f r k) F e z e = cvT r F e z e - f * cvT d F e ((z + e - i) % e) k
  | 0, _ => by simp [subP7, cvT]
  | k + 1, hk => by
    simp only [subP7, cvT]
    rw [cvT_set _ (by rw [subP7_len, hr]; omega), cvT_sub hr k (by omega), if_pos (by omega)]
    have h1 : ((z + e - i) % e + e - k) % e = (z + e - (i + k)) % e := by
      rw [show (z + e - i) % e + e - k = (z + e - i) % e + (e - k) by omega, Nat.mod_add_mod, show z + e - i + (e - k) = z + e - (i + k) + e by omega, Nat.add_mod_right]
    rw [h1, Int.mul_add, ← Int.mul_assoc]
    have h2 : ∀ a x y g : Int, a - y + (x - g * 1 - x) * 1 = a - (y + g) := fun a x y g => by omega
    have h3 : ∀ x c : Int, x - f * d.getD k 0 - x = -(f * d.getD k 0) := fun x c => by omega
    rw [h3 _ 0, Int.neg_mul]
    omega
theorem subP7_getD {d r : List Int} {i : Nat} {f : Int} : ∀ k, i + k ≤ r.length → ∀ m, (subP7 d i f r k).getD m 0 = r.getD m 0 - (if i ≤ m ∧ m < i + k then f * d.getD (m - i) 0 else 0)
  | 0, _, m => by
    simp only [subP7]
    rw [if_neg (by omega)]
    omega
  | k + 1, hk, m => by
    simp only [subP7]
    have ih := subP7_getD (d := d) (r := r) (i := i) (f := f) k (by omega)
    by_cases h : i + k = m
    · subst h
      have hl := subP7_len d i f r k
      have h1 : ∀ v, ((subP7 d i f r k).set (i + k) v).getD (i + k) 0 = v := fun v => by simp [List.getD, show i + k < (subP7 d i f r k).length by omega]
      rw [h1, ih, if_neg (by omega), if_pos (by omega), show i + k - i = k by omega]
      omega
    · have h1 : ∀ v, ((subP7 d i f r k).set (i + k) v).getD m 0 = (subP7 d i f r k).getD m 0 := fun v => by simp [List.getD, h]
      rw [h1, ih]
      by_cases h2 : i ≤ m ∧ m < i + k
      · rw [if_pos h2, if_pos (by omega)]
      · rw [if_neg h2, if_neg (by omega)]
theorem restR_len (p d : List Int) : ∀ j, (restR p d j).length = p.length
  | 0 => rfl
  | j + 1 => by
    simp only [restR]
    rw [subP7_len, restR_len p d j]
theorem restR_cv {p d F : List Int} {e : Nat} (he : 0 < e) (hp : p.length = e) (hC : ∀ y, y < e → cvT d F e y d.length = 0) : ∀ j, j ≤ rounds7 p d → ∀ z, cvT (restR p d j) F e z e = cvT p F e z e
  | 0, _, z => rfl
  | j + 1, hj, z => by
    unfold rounds7 at hj
    simp only [restR]
    rw [cvT_sub (by rw [restR_len, hp]) _ (by omega), hC _ (Nat.mod_lt _ he), Int.mul_zero, restR_cv he hp hC j (by unfold rounds7; omega) z]
    omega
theorem restR_high {p d : List Int} {e : Nat} (hp : p.length = e) (h0 : 0 < d.length) (h1 : d.getD (d.length - 1) 0 = 1) : ∀ j, j ≤ rounds7 p d → ∀ m, e - j ≤ m → (restR p d j).getD m 0 = 0
  | 0, _, m, hm => by
    simp only [restR]
    simp [List.getD, show p.length ≤ m by omega]
  | j + 1, hj, m, hm => by
    unfold rounds7 at hj
    simp only [restR]
    rw [subP7_getD _ (by rw [restR_len]; omega)]
    by_cases h : e - j ≤ m
    · rw [restR_high hp h0 h1 j (by unfold rounds7; omega) m h, if_neg (by omega)]
      rfl
    · have hm2 : m = p.length - d.length - j + d.length - 1 := by omega
      rw [if_pos (by omega), show m - (p.length - d.length - j) = d.length - 1 by omega, h1, hm2]
      omega
/-- The numbers of B times the product's numbers, added up. -/
def bcT (B r F : List Int) (e n : Nat) : Nat → Int
  | 0 => 0
  | z + 1 => bcT B r F e n z + B.getD z 0 * cvT r F e z n
def rbT (B r F : List Int) (e k : Nat) : Nat → Int
  | 0 => 0
  | j + 1 => rbT B r F e k j + r.getD j 0 * bsT B F e j k
theorem bc_zero (B r F : List Int) (e : Nat) : ∀ k, bcT B r F e 0 k = 0
  | 0 => rfl
  | k + 1 => by simp [bcT, cvT, bc_zero B r F e k]
theorem bc_next (B r F : List Int) (e n : Nat) : ∀ k, bcT B r F e (n + 1) k = bcT B r F e n k + r.getD n 0 * bsT B F e n k
  | 0 => by simp [bcT, bsT]
  | k + 1 => by
    simp only [bcT, bsT, cvT]
    rw [bc_next B r F e n k, Int.mul_add, Int.mul_add]
    have h : B.getD k 0 * (r.getD n 0 * F.getD ((k + e - n) % e) 0) = r.getD n 0 * (B.getD k 0 * F.getD ((k + e - n) % e) 0) := by rw [Int.mul_left_comm]
    omega
theorem bc_rb (B r F : List Int) (e k : Nat) : ∀ n, bcT B r F e n k = rbT B r F e k n
  | 0 => bc_zero B r F e k
  | n + 1 => by
    rw [bc_next, bc_rb B r F e k n]
    rfl
theorem bc_none {B r F : List Int} {e n : Nat} : ∀ k, (∀ z, z < k → cvT r F e z n = 0) → bcT B r F e n k = 0
  | 0, _ => rfl
  | k + 1, h => by
    simp only [bcT]
    rw [bc_none k (fun z hz => h z (by omega)), h k (by omega)]
    simp
theorem rb_one {B r F : List Int} {e k ph t : Nat} {c : Int} (hB : ∀ j, j < ph → bsT B F e j k = if j = t then c else 0) (hr : ∀ j, ph ≤ j → r.getD j 0 = 0) (ht : t < ph) : ∀ n, rbT B r F e k n = if t < n then c * r.getD t 0 else 0
  | 0 => by simp [rbT]
  | n + 1 => by
    simp only [rbT]
    rw [rb_one hB hr ht n]
    by_cases h : n < ph
    · rw [hB n h]
      by_cases h2 : n = t
      · subst h2
        rw [if_pos rfl, if_neg (by omega), if_pos (by omega), Int.mul_comm]
        omega
      · rw [if_neg h2, Int.mul_zero]
        by_cases h3 : t < n
        · rw [if_pos h3, if_pos (by omega)]
          omega
        · rw [if_neg h3, if_neg (by omega)]
          rfl
    · rw [hr n (by omega), Int.zero_mul]
      by_cases h3 : t < n
      · rw [if_pos h3, if_pos (by omega)]
        omega
      · omega
def phL (e : Nat) : List Int := phTab.getD e []
def fL (e : Nat) : List Int := fTab.getD e []
def chkE (e : Nat) : Bool :=
  cycL e == phL e && (rotK e (unitL e) e == fL e && (decide (0 < (phL e).length) && ((phL e).getD ((phL e).length - 1) 0 == 1 && (decide ((phL e).length ≤ e + 1) && (cTab.getD e 0 != 0 &&
  (((List.range e).all fun y => cvT (phL e) (fL e) e y (phL e).length == 0) &&
  ((List.range ((phL e).length - 1)).all fun t => (List.range ((phL e).length - 1)).all fun j => bsT ((bTab.getD e []).getD t []) (fL e) e j e == if j = t then cTab.getD e 0 else 0)))))))
set_option maxRecDepth 100000 in
theorem chk_all : ((List.range 25).all fun e => e == 0 || chkE e) = true := by decide +kernel
theorem chk_at {e : Nat} (he : 0 < e) (h24 : e ≤ 24) : chkE e = true := by
  have h := List.all_eq_true.1 chk_all e (List.mem_range.2 (by omega))
  have h1 : (e == 0) = false := by simp; omega
  rw [h1, Bool.false_or] at h
  exact h
theorem allZ_iff {r : List Int} {e : Nat} (hr : r.length = e) : allZ r = true ↔ ∀ z, z < e → r.getD z 0 = 0 := by
  unfold allZ
  rw [List.all_eq_true]
  constructor
  · intro h z hz
    have h2 := h (r.getD z 0) (by simp [List.getD, show z < r.length by omega])
    simpa using h2
  · intro h x hx
    obtain ⟨k, hk, rfl⟩ := List.getElem_of_mem hx
    have h2 := h k (by omega)
    simpa [List.getD, hk] using h2
/-- The rounds leave 0 just where the cyclotomic polynomial divides. -/
theorem zero_iff {e : Nat} {p : List Int} (he : 0 < e) (h24 : e ≤ 24) (hp : p.length = e) : allZ (rotK e p e) = allZ (restP p (cycL e)) := by
  have hk := chk_at he h24
  unfold chkE at hk
  simp only [Bool.and_eq_true, decide_eq_true_eq, beq_iff_eq, bne_iff_ne, List.all_eq_true, List.mem_range] at hk
  obtain ⟨k1, k2, k3, k4, k5, k6, k7, k8⟩ := hk
  rw [k1]
  have hm : ∀ z, z < e → (rotK e p e).getD z 0 = cvT p (fL e) e z e := fun z hz => by rw [rotK_cv he hp e (Nat.le_refl _) z hz, k2]
  have hR : ∀ z, cvT (restP p (phL e)) (fL e) e z e = cvT p (fL e) e z e := fun z => restR_cv he hp k7 _ (Nat.le_refl _) z
  have hlen : (restP p (phL e)).length = e := by unfold restP; rw [restR_len, hp]
  have hhi : ∀ j, (phL e).length - 1 ≤ j → (restP p (phL e)).getD j 0 = 0 := fun j hj => restR_high hp k3 k4 _ (Nat.le_refl _) j (by unfold rounds7; omega)
  rw [Bool.eq_iff_iff, allZ_iff (rotK_len hp e), allZ_iff hlen]
  constructor
  · intro h z hz
    by_cases hlt : z < (phL e).length - 1
    · have h1 : bcT ((bTab.getD e []).getD z []) (restP p (phL e)) (fL e) e e e = 0 := bc_none e (fun y hy => by rw [hR, ← hm y hy]; exact h y hy)
      rw [bc_rb, rb_one (fun j hj => k8 z hlt j hj) hhi hlt e, if_pos hz] at h1
      rcases Int.mul_eq_zero.1 h1 with h2 | h2
      · exact absurd h2 k6
      · exact h2
    · exact hhi z (by omega)
  · intro h z hz
    rw [hm z hz, ← hR z]
    have : ∀ n, n ≤ e → cvT (restP p (phL e)) (fL e) e z n = 0 := fun n => by
      induction n with
      | zero => intro _; rfl
      | succ n ih =>
        intro hn
        simp only [cvT]
        rw [ih (by omega), h n (by omega), Int.zero_mul]
        rfl
    exact this e (Nat.le_refl _)
end Go.Proofs.YthlpjiibjlaebaaGreatDoor
