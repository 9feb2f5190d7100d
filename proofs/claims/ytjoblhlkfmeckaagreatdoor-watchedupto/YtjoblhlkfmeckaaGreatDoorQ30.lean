import Derived.Test.YtjoblhlkfmeckaaGreatDoorLets
import Derived.Test.YtjoblhlkfmeckaaGreatDoorQ16
import Derived.ChangeArms
import Derived.Test.YtjoblhlkfmeckaaGreatDoorQ18
import Derived.Test.YtjoblhlkfmeckaaGreatDoorQ28
import Derived.RowKit
import Derived.Test.YtjoblhlkfmeckaaGreatDoorVTop
import Derived.Shelf.Vars
set_option maxRecDepth 8000
set_option linter.unusedVariables false
set_option linter.unusedSimpArgs false
open Option renaming some → lp,none → od
open Bool renaming true → s7,false → vp
open Go.Lib.laidMet renaming reads → bp
open Go renaming Value → tj,World → qq,MemPlace → cm,bounds_i64 → si
open List renaming take → gy,getElem?_drop → xl
open Go.World renaming cells?_some → mg,cell?_spot → cw
open UInt8 renaming ofNat → km
open Go.Lib renaming array_elem → ed,VarReads → nh
open Go.Value.slice renaming injEq → sj
open Go.Proofs.Tryz
namespace Go.Proofs.YtjoblhlkfmeckaaGreatDoor
open Go.RowKit
theorem NZ:prog.globalNamed "orchard/message.requests" = lp 0:=Aa
theorem OA:(prog.globals[0]?).map (·.type)=lp 162:=Aa
theorem NW:prog.globalNamed "orchard/message.answers" = lp 3:=Aa
theorem NX:(prog.globals[3]?).map (·.type)=lp 162:=Aa
theorem MI:prog.cellsOf 161=3:=Aa
theorem FH:prog.cellsOf 9=1:=Aa
theorem ZL{H:Type}{enc:TypeId×tj->H}{W:qq}{base n:Nat}{sp:Nat->Bool}{held:Bool}{cs:List tj}{l:List UInt8}{q:List cm}(h:DataW.trod enc prog W base sp held n 9 cs=lp (.lit (.string l),q)):cs = [.string ⟨l.toArray⟩]:=by
 obtain⟨s,e,hx,_⟩:=DataW.trod_string underlying9 h
 simp only [bH,DataW.lit.injEq,Lit.string.injEq] at hx
 rw [e,hx.1]
theorem QE{L:List tj}{a b n:Nat}{x:tj}(hb:b<n)(h:(((L.drop a).take n).drop b).take 1 = [x]):L[a+b]? = lp x:=by
 have h1:=aG (·[0]?) h
 simpa [dI,xl,hb] using h1
theorem Jf{W:qq}{base fuel:Nat}{sp:Nat->Bool}{held:Bool}{L:List tj}{ds rs:List (DataW Unit)}{p:List cm}{l:List UInt8}(h:DataW.trod (fun _=>()) prog W base sp held fuel 162 L=lp (.agg ds,p)){i j:Nat}(hi:i<8)(hj:j<3)(hd:ds[i]? = lp (.agg rs))(hr:rs[j]? = lp (.lit (.string l))):L[i * 3+j]? = lp (.string ⟨l.toArray⟩):=by
 obtain⟨f1,d1,q1,e1,t1⟩:=ed underlying162 h i hi
 obtain rfl:=aC (hd.symm.trans e1)
 rw [MI] at t1
 obtain⟨f2,d2,q2,e2,t2⟩:=ed underlying161 t1 j hj
 obtain rfl:=aC (hr.symm.trans e2)
 rw [FH,eZ] at t2
 exact QE hj (ZL t2)
theorem Ik{w:qq}{n:String}{g:Nat}{cs:Array tj}(hg:prog.globalNamed n=lp g)(hvar:w.var? prog n=lp cs){k:Nat}{x:tj}(h:cs.toList[k]? = lp x):w.cell? ⟨g,k,od⟩=lp x:=by
 simp only [World.var?,hg,cW] at hvar
 split at hvar
 ·rename_i c ty fr hb
  injection hvar with hvar
  subst hvar
  unfold World.cell?
  rw [hb]
  simpa using h
 ·cases hvar
theorem Qg{w:qq}(h:nh prog w "orchard/message.requests" Rows.laid_orchard_message_requests) :
  w.cell? ⟨0,4,od⟩=lp (.string ⟨#[40,52,52,116,98,41]⟩)/\w.cell? ⟨0,7,od⟩=lp (.string ⟨#[40,52,52,116,52,41]⟩)/\w.cell? ⟨0,10,od⟩=lp (.string ⟨#[40,52,52,116,98,52,41]⟩)/\w.cell? ⟨0,16,od⟩=lp (.string ⟨#[40,52,52,116,63,41]⟩):=by
 obtain⟨g,t,cs,fuel,p,hg,hty,hvar,hd⟩:=h
 obtain rfl:=aC (NZ.symm.trans hg)
 obtain rfl:=aC (OA.symm.trans hty)
 exact⟨Ik NZ hvar (Jf hd (i:=1) (j:=1) Ab Ab rfl rfl),Ik NZ hvar (Jf hd (i:=2) (j:=1) Ab Ab rfl rfl),Ik NZ hvar (Jf hd (i:=3) (j:=1) Ab Ab rfl rfl),Ik NZ hvar (Jf hd (i:=5) (j:=1) Ab Ab rfl rfl)⟩
theorem Qs{w:qq}(h:nh prog w "orchard/message.answers" Rows.laid_orchard_message_answers) :
  w.cell? ⟨3,1 * 3+1,od⟩=lp (.string ⟨#[40,52,56,52,116,41]⟩)/\w.cell? ⟨3,2 * 3+1,od⟩=lp (.string ⟨#[40,52,56,52,41]⟩)/\w.cell? ⟨3,3 * 3+1,od⟩=lp (.string ⟨#[40,52,56,52,40,56,56,52,52,41,41]⟩)/\w.cell? ⟨3,5 * 3+1,od⟩=lp (.string ⟨#[40,52,56,52,40,56,56,52,52,41,41]⟩):=by
 obtain⟨g,t,cs,fuel,p,hg,hty,hvar,hd⟩:=h
 obtain rfl:=aC (NW.symm.trans hg)
 obtain rfl:=aC (NX.symm.trans hty)
 exact⟨Ik NW hvar (Jf hd (i:=1) (j:=1) Ab Ab rfl rfl),Ik NW hvar (Jf hd (i:=2) (j:=1) Ab Ab rfl rfl),Ik NW hvar (Jf hd (i:=3) (j:=1) Ab Ab rfl rfl),Ik NW hvar (Jf hd (i:=5) (j:=1) Ab Ab rfl rfl)⟩
theorem gTl:prog.globalNamed "orchard/watch.tellings" = lp 4:=Aa
theorem TH:(prog.globals[4]?).map (·.type)=lp 274:=Aa
theorem MK:prog.cellsOf 273=1:=Aa
theorem Y6:prog.cellsOf 276=3:=Aa
theorem MJ:prog.cellsOf 168=1:=Aa
def QJ(x:Tl):DataW Unit:=.agg [.lit (.int .i64 x.1),.lit (.bool x.2.1),.lit (.int .i64 x.2.2)]
theorem EL{w:qq}{base:Nat}{sp:Nat->Bool}{held:Bool}{fuel:Nat}{cs:List tj}{q:List cm}{x:Tl}(h:DataW.trod (fun _=>()) prog w base sp held fuel 276 cs=lp (QJ x,q)):cs = [.int .i64 x.1,.bool x.2.1,.int .i64 x.2.2]:=by
 obtain⟨xs,n,_,hx,hl,hlen,hf⟩:=DataW.trod_struct underlying276 h
 match xs,hlen with
 | [x0,x1,x2],_=>
  rw [Y6] at hl
  match cs,hl with
  | [v0,v1,v2],_=>
   have h0:=hf 0 _ rfl
   have h1:=hf 1 _ rfl
   have h2:=hf 2 _ rfl
   simp [ML,MM,MJ] at h0 h1 h2
   obtain⟨z0,e0,rfl,_⟩:=DataW.trod_int underlying168 h0
   obtain⟨z1,e1,rfl⟩:=DataW.trod_bool underlying4 h1
   obtain⟨z2,e2,rfl,_⟩:=DataW.trod_int underlying3 h2
   simp [QJ] at hx e0 e1 e2
   obtain⟨⟨h3,h4,h5⟩,_⟩:=hx
   subst e0 e1 e2
   rw [h3,h4,h5]
theorem EM{w:qq}{fuel:Nat}{cs:List tj}{q:List cm}{T:List Tl}(hT:T≠[])(h:DataW.trod (fun _=>()) prog w 0 (fun _=>s7) vp fuel 273 cs=lp (.slice (T.map QJ) [],q)) :
  ∃g o,cs = [.slice (lp ⟨g,o,od⟩) T.length T.length]/\∀j (x:Tl),T[j]? = lp x->w.cell? ⟨g,o+j * 3,od⟩=lp (.int .i64 x.1)/\w.cell? ⟨g,o+j * 3+1,od⟩=lp (.bool x.2.1)/\w.cell? ⟨g,o+j * 3+2,od⟩=lp (.int .i64 x.2.2):=by
 rcases DataW.trod_slice Tryz.underlying273 h with⟨_,hx⟩|⟨a,len,cap,elems,rest,n,hfu,hcs,hy,_,hlc,_,hel,hei,hsp,_⟩
 ·cases hx
 ·simp only [bH,DataW.slice.injEq] at hy
  obtain⟨⟨he,hr⟩,_⟩:=hy
  have hr0:rest = []:=by simpa using hr.symm
  have Ea:cap=len:=by
   have:=(hsp rfl).1
   rw [hr0] at this
   simp at this
   omega
  have hlen:len=T.length:=by rw [←hel,←bN (f:=(·.1)),←he,bN]
  have el:∀j (x:Tl),T[j]? = lp x->∀k u,([.int .i64 x.1,.bool x.2.1,.int .i64 x.2.2]:List tj)[k]? = lp u->w.cell? (a.add (j * 3+k))=lp u:=fun j x hj k u hu=>by
   have hjl:j<T.length:=(aW.1 hj).1
   have h1:=hei j Ab
   rw [Y6] at h1
   have h2:(elems[j]?).map (·.1)=lp (QJ x):=by rw [←bX,←he,bX,hj];rfl
   obtain⟨⟨d,q'⟩,h3,h4⟩:=aJ.1 h2
   simp only at h4
   subst h4
   rw [h3] at h1
   obtain⟨c3,h5,h6⟩:=eK.1 h1
   have h7:=EL h6
   subst h7
   have h8:=(mg h5).2.2 k (by have:=(aW.1 hu).1;simpa using this)
   rw [hu] at h8
   rw [←h8,Addr.add_add]
  obtain⟨x0,T',rfl⟩:∃x0 T',T=x0 :: T':=by cases T with
   | nil=>exact absurd rfl hT
   | cons x0 T'=>exact⟨x0,T',rfl⟩
  obtain⟨g,o,spot⟩:=a
  have hspot:spot=od:=by
   have:=cw (el 0 x0 rfl 0 _ rfl)
   simpa [Addr.add] using this
  subst hspot
  refine⟨g,o,by rw [hcs,Ea,hlen],fun j x hj=>?_⟩
  have e0:=el j x hj 0 _ rfl
  have e1:=el j x hj 1 _ rfl
  have e2:=el j x hj 2 _ rfl
  rw [Addr.add_lit] at e0 e1 e2
  exact⟨by simpa using e0,by simpa [eM] using e1,by simpa [eM] using e2⟩
theorem U7{w:qq}(h:nh prog w "orchard/watch.tellings" Rows.laid_orchard_watch_tellings) :
  (∃g,Hn w 1 g [(0,vp,1),(1,s7,4)])/\(∃g,Hn w 2 g [(0,vp,2),(1,vp,2),(1,s7,4)])/\∃g,Hn w 3 g [(0,vp,3)]:=by
 obtain⟨g,t,cs,fuel,p,hg,hty,hvar,hd⟩:=h
 obtain rfl:=aC (gTl.symm.trans hg)
 obtain rfl:=aC (TH.symm.trans hty)
 have one:∀(i:Nat) (T:List Tl),i<4->T≠[]->([.nil,.slice [QJ (0,vp,1),QJ (1,s7,4)] [],.slice [QJ (0,vp,2),QJ (1,vp,2),QJ (1,s7,4)] [],.slice [QJ (0,vp,3)] []]:List (DataW Unit))[i]? = lp (.slice (T.map QJ) [])->∃g,Hn w i g T:=fun i T hi hT hdi=>by
  obtain⟨f1,d1,q1,e1,t1⟩:=ed underlying274 hd i hi
  obtain rfl:=aC (hdi.symm.trans e1)
  rw [MK,eZ] at t1
  obtain⟨g,o,hc,Ee⟩:=EM hT t1
  refine⟨g,⟨o,Ik gTl hvar ?_,Ee⟩⟩
  have h1:=aG (·[0]?) hc
  simpa [dI,xl] using h1
 exact⟨one 1 _ Ab Ae rfl,one 2 _ Ab Ae rfl,one 3 _ Ab Ae rfl⟩
theorem PD(a b:Int):Ce a b=⟨#[47]⟩∨(∃i:Fin 4,Ce a b=⟨#[47,km (97+i.1)]⟩)∨∃(i:Fin 4) (j:Fin 3),Ce a b=⟨#[47,km (97+i.1),47,km (97+j.1)]⟩:=by
 have sm:∀(c:Int) (n:Nat),0<n->n<=20->∃i:Fin n,KU (Io c n)=⟨#[km (97+i.1)]⟩:=fun c n h1 h2=>by
  obtain⟨h3,h4⟩:=Nr c (n:=n) Ab
  refine⟨⟨(Io c n).toNat,Ab⟩,?_⟩
  unfold KU
  have e:Io (Io c n) 20=Io c n:=by
   unfold Io at *
   rw [aO Ab]
   exact dW h3 Ab
  have e2:(97+Io c n).toNat=97+(Io c n).toNat:=Ab
  rw [e,e2]
 unfold Ce
 split
 ·exact .inl rfl
 ·split
  ·obtain⟨i,hi⟩:=sm a 4 Ab Ab
   exact .inr (.inl ⟨i,by rw [show((4:Nat):Int)=4 from rfl] at hi;rw [hi];rfl⟩)
  ·obtain⟨i,hi⟩:=sm a 4 Ab Ab
   obtain⟨j,hj⟩:=sm b 3 Ab Ab
   exact .inr (.inr ⟨i,j,by rw [show((4:Nat):Int)=4 from rfl] at hi;rw [show((3:Nat):Int)=3 from rfl] at hj;rw [hi,hj];rfl⟩)
theorem PF(a b:Int):Hq (Ce a b)=s7/\Dj (Ce a b)=s7/\ER (Ce a b)=s7:=by
 rcases PD a b with h|⟨i,h⟩|⟨i,j,h⟩
 ·rw [h];decide +kernel
 ·rw [h];clear h;revert i;decide +kernel
 ·rw [h];clear h;revert i j;decide +kernel
theorem KL:ER ⟨#[]⟩=s7:=Ad
open Go.ChangeShapes Go.WideShapes Go.ChangeAt Go.Pair
theorem UP(s:ByteArray):s.data.toList.length=s.size:=by rw [Array.length_toList];rfl
theorem MG{H:Type}(l:List UInt8):Rows.uptoBulk (DataW.lit (H:=H) (.string l))=l.length+1:=by simp [Rows.uptoBulk]
theorem MF{H:Type}(d:DataW H):1<=Rows.uptoBulk d:=by
 cases d with
 | lit l=>cases l <;> simp [Rows.uptoBulk]
 | _=>simp [Rows.uptoBulk]
theorem GQ{H:Type}{l:List (DataW H)}{i:Nat}(h:i<l.length):Rows.uptoBulk l[i]<=Rows.uptoBulkAll l:=by
 induction l generalizing i with
 | nil=>simp at h
 | cons x r ih=>
  simp only [Rows.uptoBulkAll]
  cases i with
  | zero=>simp
  | succ i=>
   have:=ih (i:=i) Ai
   simp only [aX]
   omega
theorem FF:prog.cellsOf 42=6:=Aa
theorem SH:prog.cellsOf 3=1:=Aa
theorem SI:prog.cellsOf 4=1:=Aa
theorem Yx{w:qq}{b k:Nat}{u:tj}(h:w.cell? ⟨b,k,od⟩=lp u):∃c t fz,w.heap[b]? = lp (.cells c t fz)/\c[k]? = lp u:=by
 unfold World.cell? at h
 simp only at h
 cases ho:w.heap[b]? with
 | none=>rw [ho] at h;cases h
 | some o=>
  rw [ho] at h
  cases o <;> first|exact⟨_,_,_,rfl,Ai⟩|cases h
theorem J3{w:qq}{b k:Nat}{u:tj}{c:Array tj}{t:TypeId}{fz:Nat×Nat}(hb:w.heap[b]? = lp (.cells c t fz))(h:w.cell? ⟨b,k,od⟩=lp u):c[k]? = lp u:=by
 obtain⟨c',t',fz',h1,h2⟩:=Yx h
 rw [hb] at h1
 cases h1
 exact h2
theorem SA{H:Type}{enc:TypeId×tj->H}{W:qq}{fuel:Nat}{sa:Option Addr}{sn sc:Nat}{y:DataW H×List cm}(h:DataW.trod enc prog W 0 (fun _=>s7) s7 fuel 22 [.slice sa sn sc]=lp y)(Cg:∀p∈y.2,p.block<W.heap.size)(hbk:Rows.uptoBulk y.1<=1048576) :
  sn<=1048576/\M8 W.heap.size sa sn (Cf W):=by
 rcases DataW.trod_slice Tryz.underlying22 h with⟨hcs,_⟩|⟨a,len,cap,elems,rest,n,hfu,hcs,hy,_,hl,hm,hel,hei,_,_⟩
 ·simp only [bV,and_true,sj] at hcs
  obtain⟨rfl,rfl,rfl⟩:=hcs
  exact⟨Ab,fun i hi=>Ab⟩
 ·simp only [bV,and_true,sj] at hcs
  obtain⟨rfl,rfl,rfl⟩:=hcs
  rw [hy] at hbk Cg
  simp only [Rows.uptoBulk] at hbk
  have hlen:elems.length<=Rows.uptoBulkAll (elems.map (·.1)):=by
   have:∀l:List (DataW H),l.length<=Rows.uptoBulkAll l:=fun l=>by
    induction l with
    | nil=>simp [Rows.uptoBulkAll]
    | cons x r ih=>have:=MF x;simp only [Rows.uptoBulkAll,aK];omega
   simpa using this (elems.map (·.1))
  refine⟨Ab,fun i hi=>?_⟩
  rw [FF] at hei
  have hie:i<elems.length:=Ab
  have hpart:Rows.uptoBulk ((elems.map (·.1))[i]'(by simpa using hie))<=Rows.uptoBulkAll (elems.map (·.1)):=GQ (by simpa using hie)
  have he:=hei i hi
  rw [aR hie] at he
  obtain⟨cs,hcs,Dk⟩:=eK.1 he
  obtain⟨xs,m,hm',hxy,hl6,hlen6,hf⟩:=DataW.trod_struct underlying42 Dk
  rw [FF] at hl6
  obtain⟨c0,c1,c2,c3,c4,c5,rfl⟩:∃c0 c1 c2 c3 c4 c5,cs = [c0,c1,c2,c3,c4,c5]:=by
   match cs,hl6 with
   | [c0,c1,c2,c3,c4,c5],_=>exact⟨_,_,_,_,_,_,rfl⟩
  obtain⟨y0,y1,y2,y3,y4,y5,rfl⟩:∃c0 c1 c2 c3 c4 c5,xs = [c0,c1,c2,c3,c4,c5]:=by
   match xs,hlen6 with
   | [c0,c1,c2,c3,c4,c5],_=>exact⟨_,_,_,_,_,_,rfl⟩
  have f0:DataW.trod enc prog W 0 (fun _=>s7) s7 m 3 (gy (prog.cellsOf 3) [c0,c1,c2,c3,c4,c5])=lp y0:=hf 0 _ rfl
  have f1:DataW.trod enc prog W 0 (fun _=>s7) s7 m 3 (gy (prog.cellsOf 3) [c1,c2,c3,c4,c5])=lp y1:=hf 1 _ rfl
  have f2:DataW.trod enc prog W 0 (fun _=>s7) s7 m 3 (gy (prog.cellsOf 3) [c2,c3,c4,c5])=lp y2:=hf 2 _ rfl
  have f3:DataW.trod enc prog W 0 (fun _=>s7) s7 m 9 (gy (prog.cellsOf 9) [c3,c4,c5])=lp y3:=hf 3 _ rfl
  have f4:DataW.trod enc prog W 0 (fun _=>s7) s7 m 3 (gy (prog.cellsOf 3) [c4,c5])=lp y4:=hf 4 _ rfl
  have f5:DataW.trod enc prog W 0 (fun _=>s7) s7 m 4 (gy (prog.cellsOf 4) [c5])=lp y5:=hf 5 _ rfl
  rw [SH] at f0 f1 f2 f4
  rw [FH] at f3
  rw [SI] at f5
  obtain⟨z0,e0,_,hz0⟩:=DataW.trod_int underlying3 f0
  obtain⟨z1,e1,_,hz1⟩:=DataW.trod_int underlying3 f1
  obtain⟨z2,e2,_,hz2⟩:=DataW.trod_int underlying3 f2
  obtain⟨s,e3,hs0,_⟩:=DataW.trod_string underlying9 f3
  obtain⟨z4,e4,_,hz4⟩:=DataW.trod_int underlying3 f4
  obtain⟨bt,e5,_⟩:=DataW.trod_bool underlying4 f5
  simp only [List.take_succ_cons,List.take_zero,bV,and_true] at e0 e1 e2 e3 e4 e5
  subst e0 e1 e2 e3 e4 e5
  have hbi:Rows.uptoBulk y3.1<=Rows.uptoBulk ((elems.map (·.1))[i]'(by simpa using hie)):=by
   simp only [eA,hxy,bY,dR,Rows.uptoBulk,Rows.uptoBulkAll]
   omega
  have hb3:Rows.uptoBulk y3.1=s.size+1:=by rw [hs0,MG,UP]
  obtain⟨b,off,spot⟩:=a
  have Ee:∀j u,([.int .i64 z0,.int .i64 z1,.int .i64 z2,.string s,.int .i64 z4,.bool bt]:List tj)[j]? = lp u->W.cell? ((⟨b,off,spot⟩:Addr).add (i * 6+j))=lp u:=fun j u hu=>by
   have h1:=(mg hcs).2.2 j (by have:=(aW.1 hu).1;simpa using this)
   rw [hu] at h1
   rw [←h1,Addr.add_add]
  have hspot:spot=od:=by
   have h2:=cw (Ee 0 _ rfl)
   by_cases hi0:i=0
   ·subst hi0
    simpa [Addr.add] using h2
   ·have h00:0<elems.length:=Ab
    have he0:=hei 0 Ab
    rw [aR h00] at he0
    obtain⟨Hb,hcs0,_⟩:=eK.1 he0
    have h3:=(mg hcs0)
    have h4:=h3.2.2 0 Ab
    rw [eH] at h4
    simp only [Addr.add,bC] at h4
    have hl0:0<Hb.length:=by rw [h3.2.1];omega
    rw [aR hl0] at h4
    exact cw h4
  subst hspot
  have k0:=Ee 0 _ rfl
  have k1:=Ee 1 _ rfl
  have k2:=Ee 2 _ rfl
  have k3:=Ee 3 _ rfl
  have k4:=Ee 4 _ rfl
  have k5:=Ee 5 _ rfl
  rw [Addr.add_lit] at k0 k1 k2 k3 k4 k5
  obtain⟨c,t,fz,hb,g0⟩:=Yx k0
  have g1:=J3 hb k1
  have g2:=J3 hb k2
  have g3:=J3 hb k3
  have g4:=J3 hb k4
  have g5:=J3 hb k5
  rw [←eM] at g0 g1 g2 g3 g4 g5
  exact⟨b,off,⟨z0,z1,z2,s,z4,bt⟩,rfl,Ax hb,⟨c,t,fz,Js hb trivial,g0,g1,g2,g3,g4,g5⟩,si hz0,si hz1,si hz2,si hz4,by show s.size<=_;omega⟩
theorem YM{w:qq}(h:w.ShapedOpen prog):∃m,w.cell? ⟨1,0,od⟩=lp (.int .i64 m):=
 cell_of_shapedOpen_int (g:=1) (t:=3) (zero:=#[.int .i64 0]) h (of_decide_eq_true Aa) Aa rfl Aa Aa underlying3
theorem Hn.of{w v:qq}{k g:Nat}{T:List Tl}(h:Hn w k g T)(h4:∀n,v.cell? ⟨4,n,od⟩=w.cell? ⟨4,n,od⟩)(hg:∀n,v.cell? ⟨g,n,od⟩=w.cell? ⟨g,n,od⟩):Hn v k g T:=by
 obtain⟨o,h1,h2⟩:=h.ex
 refine⟨o,(h4 _).trans h1,fun j x hj=>?_⟩
 obtain⟨a,b,c⟩:=h2 j x hj
 exact⟨(hg _).trans a,(hg _).trans b,(hg _).trans c⟩
theorem Hn.lt{w:qq}{k g:Nat}{x:Tl}{T:List Tl}(h:Hn w k g (x :: T)):g<w.heap.size:=by
 obtain⟨o,h1,h2⟩:=h.ex
 exact P4 (h2 0 x rfl).1
theorem BW{W:qq}(hM:laidMet prog Rows.watchedUptoRow.laid W)(hSh:W.ShapedOpen prog):Base (Lib.Utf8Tabs 6 7) W.heap.size (fun _=>False) (Cf W):=by
 have ht:=Vv (bp hM (.tail _ (.tail _ (.tail _ (.tail _ (.tail _ (.tail _ (.head _)))))))) (bp hM (.head _))
 obtain⟨lt,lf,hl⟩:=U3 (bp hM (.tail _ (.head _)))
 obtain⟨r1,r2,r3,r5⟩:=Qg (bp hM (.tail _ (.tail _ (.head _))))
 obtain⟨a1,a2,a3,a5⟩:=Qs (bp hM (.tail _ (.tail _ (.tail _ (.head _)))))
 obtain⟨⟨g1,t1⟩,⟨g2,t2⟩,g3,t3⟩:=U7 (bp hM (.tail _ (.tail _ (.tail _ (.tail _ (.tail _ (.head _)))))))
 obtain⟨m,hm⟩:=YM hSh
 have h8:8<=W.heap.size:=utf.size ht
 refine⟨Qc _,fun l h=>h.elim,fun v hv hs=>?_,dX (Cw W).symm,h8,fun a h=>h.elim⟩
 have hc:∀b n,b<W.heap.size->v.cell? ⟨b,n,od⟩=W.cell? ⟨b,n,od⟩:=fun b n hb=>(World.cell?_of_block (w:=Cf W) (a:=⟨b,n,od⟩) (hv b hb)).trans (Tp W _)
 refine⟨hs,⟨fun c h=>(hc 6 c Ab).trans (ht.1 c h),fun i h=>⟨(hc 7 _ Ab).trans (ht.2 i h).1,(hc 7 _ Ab).trans (ht.2 i h).2⟩⟩,⟨lt,lf,(hv 5 Ab).trans (Js hl trivial)⟩,(hc 0 _ Ab).trans r1,(hc 0 _ Ab).trans r2,(hc 0 _ Ab).trans r3,(hc 0 _ Ab).trans r5,(hc 3 _ Ab).trans a1,(hc 3 _ Ab).trans a2,(hc 3 _ Ab).trans a3,(hc 3 _ Ab).trans a5,⟨m,(hc 1 _ Ab).trans hm⟩,⟨g1,t1.lt,t1.of (fun n=>hc 4 n Ab) fun n=>hc g1 n t1.lt⟩,⟨g2,t2.lt,t2.of (fun n=>hc 4 n Ab) fun n=>hc g2 n t2.lt⟩,⟨g3,t3.lt,t3.of (fun n=>hc 4 n Ab) fun n=>hc g3 n t3.lt⟩⟩
open Go.Conc
theorem KE{P:Program}{b:Frame}{a:Act}{todo:List Item}{fn:Func}{v:tj}{w:qq}(hn:b.kind=.normal)(hd:a.defers = [])(hf:P.funcs[b.fn]? = lp fn)(hr:(results fn a.tmps).run P w=.ok v w)(he:(results fn a.tmps).events P w #[]=#[])(hi:P.inits.idxOf? b.fn=od) :
  stepG P s7 (G { b.at a todo with mode:=.returning } []) w=.ended (.done v) w #[]:=by
 simp [G,stepG,unwind,doReturn,Frame.at,hn,hd,hf,hr,he,hi,seen,GStep.after]
theorem YB:prog.inits.idxOf? (base 3).fn=od:=Aa
set_option maxRecDepth 100000 in
theorem Yc{Post:tj->qq->Prop}{W:qq}(B:Base (Lib.Utf8Tabs 6 7) W.heap.size (fun _=>False) (Cf W)){oA:Option Addr}{n cap:Nat}{pa pb so:Int}(ha:Gy pa)(hb:Gy pb)(hso:Gy so)(hn:n<=1000000000)(hA:M8 W.heap.size oA n (Cf W))(hPost:∀w',W.heap.size<=w'.heap.size->(∀i,i<W.heap.size->w'.heap[i]? = W.heap[i]?)->Post (.bool s7) w') :
  EA prog Post (fun _=>False) (G ((base 3).at { tmps:=#[.slice oA n cap,.int .i64 pa,.int .i64 pb,.int .i64 so]++Array.replicate (Tryz.f3.ntmps - (#[.slice oA n cap,.int .i64 pa,.int .i64 pb,.int .i64 so]:Array tj).size) undef,defers:=[] } [.code b3]) []) W:=by
 have key:EA prog (Da.real ⟨fun i o=>W.heap[i]? = lp o,fun x w'=>x=.bool s7/\W.heap.size<=w'.heap.size/\Dh W.heap.size (Cf W) w'⟩) (fun _=>False) (G ((base 3).at { tmps:=#[.slice oA n cap,.int .i64 pa,.int .i64 pb,.int .i64 so]++Array.replicate (Tryz.f3.ntmps - (#[.slice oA n cap,.int .i64 pa,.int .i64 pb,.int .i64 so]:Array tj).size) undef,defers:=[] } [.code b3]) []) W:=by
  refine ES (Post:=⟨fun i o=>W.heap[i]? = lp o,fun x w'=>x=.bool s7/\W.heap.size<=w'.heap.size/\Dh W.heap.size (Cf W) w'⟩) utf PF KL B (cap:=cap) ha hb hso hn hA W rfl (fun i o h _=>h) (base 3) [] [] rfl rfl fun e a' w' S ⟨hF,he,hd,hx,hk,hB⟩=>?_
  have hret:∀todo,EA prog (Da.real ⟨fun i o=>W.heap[i]? = lp o,fun x w'=>x=.bool s7/\W.heap.size<=w'.heap.size/\Dh W.heap.size (Cf W) w'⟩) S (G { (base 3).at a' todo with mode:=.returning } []) w':=fun todo d=>
   Ends.ret rfl fun m=>⟨.bool s7,#[],by rw [KE rfl hd func3 (results_tmp (t:=8) Ac _ _ _) (events_results_tmp (t:=8) Ac _ _) YB,hx],Ae,⟨rfl,rfl⟩,hF,rfl,hB.sz,hk⟩
  rcases he with rfl|rfl
  ·exact EA.ctl rfl (fun w1=>stepG_end) (hret [])
  ·exact hret
 refine fun d=>(key d).mono fun x W' ⟨h1,hF,hx,hz,hk⟩=>⟨h1,?_⟩
 have hx':x=.bool s7:=hx
 subst hx'
 refine hPost W' (by rw [Cw] at hz;exact hz) fun i hi=>?_
 have e:W.heap[i]? = lp W.heap[i]:=aZ hi
 by_cases ho:B7 W.heap[i]
 ·rw [e]
  exact J6 (hk i _ (Js e ho) hi) ho
 ·have h2:=hk i dead (by rw [Cr,e,bA,It ho]) hi
  rw [Cr] at h2
  obtain⟨x,hx,hd⟩:=aJ.1 h2
  have hxo:¬B7 x:=fun hk=>by rw [Gu hk] at hd;rw [hd] at hk;exact hk
  exact hx.trans (hF i x hx hxo).symm
end Go.Proofs.YtjoblhlkfmeckaaGreatDoor
