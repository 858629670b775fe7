package conn

import (
	"vizard/api"
	"vizard/seal"
	"vizard/sha"
)

const (
	nameSize    = 8
	numberAt    = 1 + nameSize
	headSize    = numberAt + 4
	tagSize     = 16
	leastPacket = headSize + tagSize
	nonceSize   = 16
)

// Kinds of packets: the first byte.
const (
	kindHello   = 1
	kindWelcome = 2
	kindData    = 3
)

// Hello is the name and the nonce that a hello has.
func Hello(psk, packet string) (string, string, api.Errno) {
	if len(packet) < leastPacket {
		return "", "", api.ErrShort
	}
	if packet[0] != kindHello {
		return "", "", api.ErrKind
	}
	nonce, e := openNonce(helloKey(psk), packet)
	if e != api.OK {
		return "", "", e
	}
	return nameOf(packet), nonce, api.OK
}

// openNonce is the nonce that a hello or a welcome has.
func openNonce(k *seal.Key, packet string) (string, api.Errno) {
	nonce, e := openPacket(k, packet)
	if e != api.OK {
		return "", e
	}
	if len(nonce) != nonceSize || numberOf(packet) != 0 {
		return "", api.ErrField
	}
	return nonce, api.OK
}

// sealPacket is a packet with its head.
func sealPacket(k *seal.Key, kind byte, name string, number int64, data string) string {
	head := headOf(kind, name, number)
	return head + k.Seal(number, head, data)
}

// openPacket is the data of a packet that has a head.
func openPacket(k *seal.Key, packet string) (string, api.Errno) {
	return k.Open(numberOf(packet), packet[:headSize], packet[headSize:])
}

// headOf is what stands ahead of the sealed bytes.
func headOf(kind byte, name string, number int64) string {
	head := append([]byte{kind}, name...)
	for shift := 24; shift >= 0; shift -= 8 {
		head = append(head, byte(number>>shift&0xff))
	}
	return string(head)
}

// nameOf is the connection's name in a packet that has a head.
func nameOf(packet string) string {
	return packet[1:numberAt]
}

// numberOf is the number in a packet that has a head.
func numberOf(packet string) int64 {
	n := int64(0)
	for i := numberAt; i < headSize; i++ {
		n = n<<8 | int64(packet[i])
	}
	return n
}

func helloKey(psk string) *seal.Key {
	return keyOf(psk, "hello", "")
}

func welcomeKey(psk, nonce string) *seal.Key {
	return keyOf(psk, "welcome", nonce)
}

func keyOf(psk, label, context string) *seal.Key {
	return seal.New(sha.Derive(psk, label, context))
}
